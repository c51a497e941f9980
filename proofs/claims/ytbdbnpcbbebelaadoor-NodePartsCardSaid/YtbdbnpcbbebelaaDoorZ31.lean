/-
  Plain mathematics: pages of rows, of entries.
-/
import Derived.Test.YtbdbnpcbbebelaaDoorZ25
import Derived.Test.YtbdbnpcbbebelaaDoorZ30
namespace Go.Proofs.YtbdbnpcbbebelaaDoor.Node
open Go.Proofs.YtbdbnpcbbebelaaDoor.Page (Pg nth used)
open Go.Proofs.YtbdbnpcbbebelaaDoor.Row (Rw En encS entS decR decN okR okE mayR mayE)
open Go.Proofs.YtbdbnpcbbebelaaDoor.Key (cmpOf)

theorem nth_map {α : Type} {f : α → ByteArray} {l : List α} {j : Nat} (h : j < l.length) : nth (l.map f) j = f l[j] := by
  unfold Page.nth
  rw [List.getD_eq_getElem?_getD, List.getElem?_map, List.getElem?_eq_getElem h]
  rfl
theorem empty_bad : okR ⟨#[]⟩ = false ∧ okE ⟨#[]⟩ = false := by decide +kernel
theorem row_may {r : Rw} (hw : r.wf) (h : okR (encS r) = true) : mayR r = true ∧ decR (encS r) = r := by
  cases hm : mayR r with
  | false =>
    have e : encS r = ⟨#[]⟩ := by unfold Row.encS; rw [hm]; rfl
    rw [e, empty_bad.1] at h
    cases h
  | true =>
    obtain ⟨k1, k2⟩ := Row.dec_enc hw hm
    refine ⟨rfl, ?_⟩
    rw [(Row.is_ok k1).1, k2]
theorem ent_may {r : En} (hw : r.wf) (h : okE (entS r) = true) : mayE r = true ∧ decN (entS r) = r := by
  cases hm : mayE r with
  | false =>
    have e : entS r = ⟨#[]⟩ := by unfold Row.entS; rw [hm]; rfl
    rw [e, empty_bad.2] at h
    cases h
  | true => exact ⟨rfl, (Row.dec_ent hw hm).2⟩

section
variable {l : List Rw} (hw : ∀ j (h : j < l.length), l[j].wf) (hn : nodeB (leafP l) = true)
include hw hn
theorem leaf_row {j : Nat} (h : j < l.length) : mayR l[j] = true ∧ decR (encS l[j]) = l[j] := by
  have := node_kB hn (j := j) (by show j < (l.map encS).length; rw [List.length_map]; exact h)
  change kB 1 (nth (l.map encS) j) = true at this
  rw [nth_map h] at this
  exact row_may (hw j h) this
theorem leaf_key {j : Nat} (h : j < l.length) : kS 1 (nth (l.map encS) j) = l[j].key := by
  rw [nth_map h]
  unfold kS
  rw [if_pos rfl, (leaf_row hw hn h).2]
theorem leaf_keys : keysL 1 (l.map encS) = l.map (·.key) := by
  refine Page.ext_nth (by rw [keys_len, List.length_map, List.length_map]) fun j hj => ?_
  rw [keys_len, List.length_map] at hj
  rw [nth_keys (by rw [List.length_map]; exact hj), leaf_key hw hn hj, nth_map hj]
theorem leaf_ris : risB (l.map (·.key)) (l.map (·.key)).length = true := by
  have := node_ris hn
  change risB (keysL 1 (l.map encS)) (l.map encS).length = true at this
  rw [leaf_keys hw hn, List.length_map] at this
  rw [List.length_map]
  exact this
theorem leaf_find (key : ByteArray) : findI (leafP l) key = fndL (l.map (·.key)) key ∧ findB (leafP l) key = hitL (l.map (·.key)) key := by
  obtain ⟨e1, e2⟩ := find_nodeL (leafP l) key
  have e : nodeL (leafP l) = l.map (·.key) := by
    unfold nodeL
    rw [hn, if_pos rfl]
    exact leaf_keys hw hn
  rw [← e1, ← e2, e]
  exact ⟨rfl, rfl⟩
theorem leaf_find_at {j : Nat} (h : j < l.length) : findI (leafP l) l[j].key = j ∧ findB (leafP l) l[j].key = true := by
  obtain ⟨e1, e2⟩ := leaf_find hw hn l[j].key
  have hr := leaf_ris hw hn
  have hj : j < (l.map (·.key)).length := by rw [List.length_map]; exact h
  have ek : nth (l.map (·.key)) j = l[j].key := nth_map h
  have ez : cmpOf (nth (l.map (·.key)) j) l[j].key = 0 := by rw [ek]; exact cmp_same.2 rfl
  have hf : fndL (l.map (·.key)) l[j].key = j := fnd_at hj (by omega) fun i hi => by
    have := ris_lt hr hi hj
    rw [ek] at this
    exact this
  rw [e1, e2, hf]
  refine ⟨rfl, ?_⟩
  unfold hitL
  rw [hf, decide_eq_true hj, decide_eq_true ez]
  rfl
theorem leaf_key_at {j : Nat} (h : j < l.length) : keyT (leafP l) (j : Int) = l[j].key ∧ keyE (leafP l) (j : Int) = 0 := by
  have hc : (0 : Int) ≤ (j : Int) ∧ (j : Int) < ((leafP l).rows.length : Nat) := by
    show _ ∧ (j : Int) < ((l.map encS).length : Nat)
    rw [List.length_map]; omega
  unfold keyT keyE
  rw [hn, if_pos rfl, if_pos rfl, if_pos hc, if_pos hc, Int.toNat_natCast]
  exact ⟨leaf_key hw hn h, rfl⟩
/-- where a key is, or would be -/
theorem leaf_place (key : ByteArray) : findI (leafP l) key ≤ l.length ∧ (∀ (h : findI (leafP l) key - 1 < l.length), 0 < findI (leafP l) key → cmpOf l[findI (leafP l) key - 1].key key < 0) ∧ (∀ (h : findI (leafP l) key < l.length), cmpOf key l[findI (leafP l) key].key ≤ 0) ∧ (findB (leafP l) key = true → ∃ h : findI (leafP l) key < l.length, l[findI (leafP l) key].key = key) := by
  obtain ⟨e1, e2⟩ := leaf_find hw hn key
  have hl := fnd_le (l.map (·.key)) key
  rw [List.length_map] at hl
  rw [e1, e2]
  refine ⟨hl, fun h h0 => ?_, fun h => ?_, fun hb => ?_⟩
  · have := fnd_low (L := l.map (·.key)) (key := key) (j := fndL (l.map (·.key)) key - 1) (by omega)
    rw [nth_map h] at this
    exact this
  · have := fnd_high (L := l.map (·.key)) (key := key) (by rw [List.length_map]; exact h)
    rw [nth_map h] at this
    have h2 := cmp_flip l[fndL (l.map (·.key)) key].key key
    omega
  · unfold hitL at hb
    simp only [Bool.and_eq_true, decide_eq_true_eq, List.length_map] at hb
    refine ⟨hb.1, ?_⟩
    have := cmp_same.1 hb.2
    rw [nth_map hb.1] at this
    exact this
end

theorem enc_small (r : Rw) : (encS r).size ≤ 161 := by
  have h := Row.enc_size r
  unfold Row.sizeR at h
  cases hm : mayR r with
  | false =>
    rw [hm] at h
    have h2 : ((encS r).size : Int) = 0 := h
    omega
  | true =>
    rw [hm, if_pos rfl] at h
    obtain ⟨p1, p2, p3, p4, p5, p6⟩ := Row.may_parts hm
    omega
theorem leaf_small (l : List Rw) {j : Nat} (h : j < (leafP l).rows.length) : (nth (leafP l).rows j).size ≤ 161 := by
  change j < (l.map encS).length at h
  rw [List.length_map] at h
  show (nth (l.map encS) j).size ≤ 161
  rw [nth_map h]
  exact enc_small _
theorem check_node {p : Pg} (h : (checkI p != 0) = false) : nodeB p = true := by
  rw [check_zero] at h
  simpa using h
/-- entries with these keys -/
def entsOf (l : List Rw) : List En := l.zipIdx.map fun x => ⟨x.1.key, x.2 + 2⟩
theorem ents_len (l : List Rw) : (entsOf l).length = l.length := by unfold entsOf; rw [List.length_map, List.length_zipIdx]
theorem ents_get (l : List Rw) (j : Nat) : (entsOf l)[j]? = l[j]?.map fun r => (⟨r.key, j + 2⟩ : En) := by
  unfold entsOf
  rw [List.getElem?_map, List.getElem?_zipIdx]
  cases l[j]? with
  | none => rfl
  | some r => simp
theorem ents_at {l : List Rw} {j : Nat} (h : j < (entsOf l).length) : (entsOf l)[j] = ⟨(l[j]'(by rw [← ents_len l]; exact h)).key, j + 2⟩ := by
  have h2 : j < l.length := by rw [← ents_len l]; exact h
  have h1 := ents_get l j
  rw [List.getElem?_eq_getElem h, List.getElem?_eq_getElem h2] at h1
  exact Option.some.inj h1
theorem ents_take {l : List Rw} {k : Nat} (h : k < l.length) : entsOf (l.take (k + 1)) = entsOf (l.take k) ++ [⟨l[k].key, k + 2⟩] := by
  unfold entsOf
  rw [List.take_succ_eq_append_getElem h, List.zipIdx_append, List.map_append, List.length_take, Nat.min_eq_left (by omega)]
  simp
section
variable {l : List Rw} (hw : ∀ j (h : j < (entsOf l).length), (entsOf l)[j].wf) (hn : nodeB (innerP (entsOf l)) = true)
include hw hn
theorem inner_dec {j : Nat} (h : j < (entsOf l).length) : decN (entS (entsOf l)[j]) = (entsOf l)[j] := by
  have := node_kB hn (j := j) (by show j < ((entsOf l).map entS).length; rw [List.length_map]; exact h)
  change kB 2 (nth ((entsOf l).map entS) j) = true at this
  rw [nth_map h] at this
  exact (ent_may (hw j h) this).2
theorem inner_keys : keysL 2 ((entsOf l).map entS) = l.map (·.key) := by
  refine Page.ext_nth (by rw [keys_len, List.length_map, List.length_map, ents_len]) fun j hj => ?_
  rw [keys_len, List.length_map] at hj
  have hj2 : j < l.length := by rw [← ents_len l]; exact hj
  rw [nth_keys (by rw [List.length_map]; exact hj), nth_map hj, nth_map hj2]
  unfold kS
  rw [if_neg (by decide), inner_dec hw hn hj, ents_at hj]
/-- below which child it is -/
theorem inner_child (key : ByteArray) (h0 : 0 < l.length) (hr : risB (l.map (·.key)) (l.map (·.key)).length = true) {f : Nat} {b : Bool} (hf : f = fndL (l.map (·.key)) key) (hb : b = hitL (l.map (·.key)) key) :
    chI (innerP (entsOf l)) key = (if b then f else f - 1) ∧ chC (innerP (entsOf l)) key = (if b then f else f - 1) + 2 ∧ chE (innerP (entsOf l)) = 0 := by
  have hcb : chB (innerP (entsOf l)) = true := by unfold chB; rw [hn]; rfl
  have hk : keysOf (innerP (entsOf l)) = l.map (·.key) := by
    rw [(node_keys hn).2]
    exact inner_keys hw hn
  have hlen : (innerP (entsOf l)).rows.length = (l.map (·.key)).length := by
    show ((entsOf l).map entS).length = _
    rw [List.length_map, List.length_map, ents_len]
  have hl : lastL (l.map (·.key)) key (l.map (·.key)).length = (if b then f else f - 1) := by
    rw [last_fnd hr (by rw [List.length_map]; exact h0), hf, hb]
  have hlt := last_lt (l.map (·.key)) key (l.map (·.key)).length
  rw [hl] at hlt
  have hlt2 : (if b then f else f - 1) < (entsOf l).length := by rw [ents_len]; rw [List.length_map] at hlt; omega
  refine ⟨?_, ?_, ?_⟩
  · unfold chI
    rw [hcb, if_pos rfl, hk, hlen, hl]
  · unfold chC
    rw [hcb, if_pos rfl, hk, hlen, hl]
    show (decN (nth ((entsOf l).map entS) _)).child = _
    rw [nth_map hlt2, inner_dec hw hn hlt2, ents_at hlt2]
  · unfold chE
    rw [hcb, if_pos rfl]
end

theorem ent_small (r : En) : (entS r).size ≤ 4 + r.key.size := by
  unfold Row.entS
  split
  · rw [ByteArray.size_append, Row.nb_size]
    exact Nat.le_refl _
  · exact Nat.zero_le _
theorem used_bound {L : List ByteArray} {b : Nat} (h : ∀ s ∈ L, s.size ≤ b) : used L ≤ L.length * (4 + b) := by
  induction L with
  | nil => exact Nat.zero_le _
  | cons a L ih =>
    rw [Page.used_cons, List.length_cons]
    have h1 := h a List.mem_cons_self
    have h2 := ih fun s hs => h s (List.mem_cons_of_mem _ hs)
    rw [Nat.add_mul]
    omega
theorem ent_light (r : En) : (entS r).size ≤ 52 := by
  unfold Row.entS
  split
  · rename_i hm
    have := (Row.mayE_parts hm).1
    rw [ByteArray.size_append, Row.nb_size]
    omega
  · exact Nat.zero_le _
theorem ents_used {l : List Rw} (_hw : ∀ j (h : j < l.length), l[j].wf) (hn : l.length ≤ 30) : used ((entsOf l).map entS) ≤ 1000000 := by
  have := used_bound (L := (entsOf l).map entS) (b := 52) fun s hs => by
    obtain ⟨e, _, rfl⟩ := List.mem_map.1 hs
    exact ent_light e
  rw [List.length_map, ents_len] at this
  omega

end Go.Proofs.YtbdbnpcbbebelaaDoor.Node
