/-
  Plain mathematics: both parts of a page that is split have room, and are merged again.
-/
import Derived.Test.YtbdbnpcbbebelaaDoorZ31
namespace Go.Proofs.YtbdbnpcbbebelaaDoor.Node
open Go.Proofs.YtbdbnpcbbebelaaDoor.Page (Pg nth used)
open Go.Proofs.YtbdbnpcbbebelaaDoor.Row (Rw encS decR okR mayR)
open Go.Proofs.YtbdbnpcbbebelaaDoor.Key (cmpOf comOf between)

/-! ### keys with one put among them -/
theorem nth_low {l m : List ByteArray} {j : Nat} (h : j < l.length) : nth (l ++ m) j = nth l j := by rw [nth_app, if_pos h]
theorem nth_take2 {l : List ByteArray} {k j : Nat} (h : j < k) : nth (l.take k) j = nth l j := by
  unfold Page.nth
  rw [List.getD_eq_getElem?_getD, List.getElem?_take_of_lt h, ← List.getD_eq_getElem?_getD]
theorem nth_drop2 {l : List ByteArray} {k j : Nat} : nth (l.drop k) j = nth l (k + j) := by
  unfold Page.nth
  rw [List.getD_eq_getElem?_getD, List.getElem?_drop, ← List.getD_eq_getElem?_getD]
theorem nth_put {l : List ByteArray} {k : Nat} {t : ByteArray} {is : Bool} (hk : k ≤ l.length) (j : Nat) :
    nth (putL l k t is) j = if j < k then nth l j else if j = k then t else nth l ((if is then k + 1 else k) + (j - (k + 1))) := by
  have e : (l.take k).length = k := by rw [List.length_take]; omega
  have e2 : (l.take k ++ [t]).length = k + 1 := by rw [List.length_append, e]; rfl
  unfold putL
  rw [nth_app, e2]
  by_cases h1 : j < k
  · rw [if_pos (by omega), if_pos h1, nth_low (by rw [e]; exact h1), nth_take2 h1]
  · rw [if_neg h1]
    by_cases h2 : j = k
    · subst h2
      rw [if_pos (by omega), if_pos rfl, nth_app, e, if_neg (by omega), Nat.sub_self]
      rfl
    · rw [if_neg (by omega), if_neg h2, nth_drop2]
theorem put_len {l : List ByteArray} {k : Nat} {t : ByteArray} {is : Bool} (hk : k ≤ l.length) : (putL l k t is).length = k + 1 + (l.length - (if is then k + 1 else k)) := by
  unfold putL
  rw [List.length_append, List.length_append, List.length_take, List.length_drop, Nat.min_eq_left hk]
  rfl
theorem keys_put (kind : Nat) (l : List ByteArray) (k : Nat) (t : ByteArray) (is : Bool) : keysL kind (putL l k t is) = putL (keysL kind l) k (kS kind t) is := by
  unfold keysL putL
  rw [List.map_append, List.map_append, List.map_take, List.map_drop]
  rfl
theorem keys_drop (kind : Nat) (l : List ByteArray) (k : Nat) : keysL kind (l.drop k) = (keysL kind l).drop k := by
  unfold keysL
  rw [List.map_drop]
theorem ris_put {L : List ByteArray} (hr : risB L L.length = true) (key : ByteArray) : risB (putL L (fndL L key) key (hitL L key)) (putL L (fndL L key) key (hitL L key)).length = true := by
  have hl := fnd_le L key
  obtain ⟨f, hf⟩ : ∃ f, f = fndL L key := ⟨_, rfl⟩
  have hlow : ∀ j, j < f → cmpOf (nth L j) key < 0 := fun j hj => fnd_low (by omega)
  have hup : ∀ j, f < j → j < L.length → 0 < cmpOf (nth L j) key := fun j h1 h2 => fnd_above hr (by omega) h2
  have hno : hitL L key = false → f < L.length → 0 < cmpOf (nth L f) key := fun hb h => by
    have h1 := fnd_high (L := L) (key := key) (by omega)
    unfold hitL at hb
    rw [← hf] at hb h1
    rw [decide_eq_true h, Bool.true_and] at hb
    have := of_decide_eq_false hb
    omega
  have hyes : hitL L key = true → f < L.length := fun hb => by
    unfold hitL at hb
    rw [← hf] at hb
    exact of_decide_eq_true (Bool.and_eq_true_iff.1 hb).1
  rw [← hf] at hl ⊢
  generalize hitL L key = b at *
  have hg : (if b then f + 1 else f) ≤ L.length := by
    cases b with
    | true => exact hyes rfl
    | false => exact hl
  have hlen := put_len (t := key) (is := b) hl
  refine risB_mk fun k hk => ?_
  rw [hlen] at hk
  rw [nth_put hl, nth_put hl]
  by_cases h1 : k + 1 < f
  · rw [if_pos (by omega), if_pos h1]
    exact ris_next hr (by omega)
  · rw [if_neg h1]
    by_cases h2 : k + 1 = f
    · rw [if_pos (by omega), if_pos h2]
      exact hlow k (by omega)
    · rw [if_neg h2, if_neg (show ¬ k < f by omega)]
      by_cases h3 : k = f
      · subst h3
        rw [if_pos rfl, Nat.sub_self]
        have h4 := cmp_flip key (nth L ((if b then k + 1 else k) + 0))
        have h5 : 0 < cmpOf (nth L ((if b then k + 1 else k) + 0)) key := by
          cases b with
          | true => exact hup _ (by rw [if_pos rfl]; omega) (by rw [if_pos rfl] at hk ⊢; omega)
          | false => exact hno rfl (by rw [if_neg (by decide)] at hk; omega)
        omega
      · rw [if_neg h3]
        have e : (if b then f + 1 else f) + (k + 1 - (f + 1)) = (if b then f + 1 else f) + (k - (f + 1)) + 1 := by omega
        rw [e]
        exact ris_next hr (by omega)

/-! ### where it is cut -/
theorem cut_exists {l : List ByteArray} {m : Nat} (hm : m ≤ 161) (h2 : 2 ≤ l.length) (hs : ∀ j, j < l.length → (nth l j).size ≤ m) (hu : used l ≤ 649) : cutN l ≠ 0 := by
  have key : ∀ k, 1 ≤ k → k ≤ l.length - 1 → (∃ j, 1 ≤ j ∧ j ≤ k ∧ fitB l j = true) ∨ used (l.take k) ≤ 484 := by
    intro k h1 hk
    induction k with
    | zero => omega
    | succ k ih =>
      have ht := Page.used_take (l := l) (k := k) (by omega)
      have hz := hs k (by omega)
      by_cases e : k = 0
      · subst e
        right
        have e0 : used (l.take 0) = 0 := by rw [List.take_zero]; rfl
        omega
      · rcases ih (by omega) (by omega) with ⟨j, a, b, c⟩ | h
        · exact .inl ⟨j, a, by omega, c⟩
        · by_cases h4 : used (l.take (k + 1)) ≤ 484
          · exact .inr h4
          · refine .inl ⟨k, by omega, by omega, ?_⟩
            have hd := used_drop_le l k
            unfold fitB
            rw [decide_eq_true h, decide_eq_true (show used (l.drop k) ≤ 484 by omega)]
            rfl
  have hlast : ∃ j, 1 ≤ j ∧ j ≤ l.length - 1 ∧ fitB l j = true := by
    rcases key (l.length - 1) (by omega) (Nat.le_refl _) with h | h
    · exact h
    · refine ⟨l.length - 1, by omega, Nat.le_refl _, ?_⟩
      have ht := Page.used_take (l := l) (k := l.length - 1) (by omega)
      have hz := hs (l.length - 1) (by omega)
      have hd := used_drop_le l (l.length - 1)
      have e : l.take (l.length - 1 + 1) = l := List.take_of_length_le (by omega)
      rw [e] at ht
      unfold fitB
      rw [decide_eq_true h, decide_eq_true (show used (l.drop (l.length - 1)) ≤ 484 by omega)]
      rfl
  obtain ⟨j, h1, hj, hf⟩ := hlast
  exact bst_some h1 hf _ hj
theorem cut_none {l : List ByteArray} (h : l.length < 2) : cutN l = 0 := by
  unfold cutN
  have := bst_le l (l.length - 1)
  omega

/-! ### what is between -/
theorem sep_left {a b : ByteArray} (h : cmpOf a b < 0) : cmpOf a (between a b) < 0 := by
  unfold between
  rw [if_pos h]
  have h1 := Key.cut_gt a b h
  have h2 := cmp_flip a (b.extract 0 (comOf a b + 1))
  omega
theorem com_self : ∀ l : List UInt8, Key.com l l = l.length
  | [] => rfl
  | a :: us => by
    show (if a = a then Key.com us us + 1 else 0) = _
    rw [if_pos rfl, com_self us]
    rfl
theorem sep_right {a b : ByteArray} (h : cmpOf a b < 0) : cmpOf (between a b) b ≤ 0 := by
  unfold between
  rw [if_pos h]
  by_cases hn : comOf a b + 1 ≤ b.size
  · refine Key.cut_le b b _ ?_
    have : comOf b b = b.size := com_self b.data.toList
    omega
  · have e : b.extract 0 (comOf a b + 1) = b := ByteArray.ext (Array.toList_inj.1 (by
      have h1 : b.data.toList.length = b.size := rfl
      exact (Key.data_cut b _).trans (List.take_of_length_le (by omega))))
    rw [e, cmp_same.2 rfl]
    omega

/-! ### parts of rows that rise -/
theorem part_node {p : Pg} {R A : List ByteArray} {n : Nat} (hk : p.kind = 1) (hl : p.level = 0) (hm : Page.mayP { p with rows := A } = true) (hR : upB 1 R R.length = true)
    (hA : ∀ j, j < A.length → n + j < R.length ∧ nth A j = nth R (n + j)) : nodeB { p with rows := A } = true := by
  unfold nodeB
  rw [hm, Bool.and_true]
  have hh : headB { p with rows := A } = true := by
    unfold headB
    show ((decide (p.kind = 1) && decide (p.level = 0)) || _) = true
    rw [decide_eq_true hk, decide_eq_true hl]
    rfl
  unfold keysB
  rw [hh, Bool.true_and]
  show upB p.kind A A.length = true
  rw [hk]
  refine List.all_eq_true.2 fun j hj => ?_
  have hj := List.mem_range.1 hj
  obtain ⟨a1, a2⟩ := hA j hj
  have h1 := upB_at hR a1
  unfold okAt at h1 ⊢
  rw [a2]
  obtain ⟨k1, k2⟩ := Bool.and_eq_true_iff.1 h1
  rw [k1, Bool.true_and]
  cases j with
  | zero => rfl
  | succ j =>
    obtain ⟨b1, b2⟩ := hA j (by omega)
    have e : n + (j + 1) - 1 = n + j := by omega
    rw [e] at k2
    have e2 : j + 1 - 1 = j := by omega
    rw [e2, b2]
    simpa using k2
theorem key_at {p : Pg} (hn : nodeB p = true) {j : Nat} (h : j < p.rows.length) : keyT p (j : Int) = kS p.kind (nth p.rows j) ∧ keyE p (j : Int) = 0 := by
  have hc : (0 : Int) ≤ (j : Int) ∧ (j : Int) < (p.rows.length : Nat) := by omega
  unfold keyT keyE
  rw [hn, if_pos rfl, if_pos rfl, if_pos hc, if_pos hc, Int.toNat_natCast]
  exact ⟨rfl, rfl⟩

/-- what is put at the place that is found -/
def allL (l : List Rw) (r : Rw) : List ByteArray := putL (leafP l).rows (findI (leafP l) r.key) (encS r) (findB (leafP l) r.key)
section
variable {l : List Rw} (hw : ∀ j (h : j < l.length), l[j].wf) (hn : nodeB (leafP l) = true) {r : Rw} (hr : r.wf) (hm : mayR r = true)
include hw hn
theorem place_ok : findI (leafP l) r.key ≤ (leafP l).rows.length ∧ (findB (leafP l) r.key = true → findI (leafP l) r.key < (leafP l).rows.length) := by
  obtain ⟨p1, _, _, p4⟩ := leaf_place hw hn r.key
  have e : (leafP l).rows.length = l.length := by show (l.map encS).length = _; rw [List.length_map]
  rw [e]
  exact ⟨p1, fun h => (p4 h).1⟩
include hr hm
theorem all_up : upB 1 (allL l r) (allL l r).length = true := by
  obtain ⟨p1, p2⟩ := place_ok hw hn (r := r)
  obtain ⟨d1, d2⟩ := Row.dec_enc hr hm
  have hkr : kB 1 (encS r) = true := d1
  have hks : kS 1 (encS r) = r.key := by
    unfold kS
    rw [if_pos rfl, (row_may hr d1).2]
  have hall : ∀ j, j < (allL l r).length → kB 1 (nth (allL l r) j) = true := fun j hj => by
    unfold allL at hj ⊢
    rw [put_len p1] at hj
    rw [nth_put p1]
    have hg : (if findB (leafP l) r.key then findI (leafP l) r.key + 1 else findI (leafP l) r.key) ≤ (leafP l).rows.length := by
      cases hb : findB (leafP l) r.key with
      | true => exact p2 hb
      | false => exact p1
    split
    · exact node_kB hn (by omega)
    · split
      · exact hkr
      · exact node_kB hn (by omega)
  rw [upB_ris (Nat.le_refl _) hall]
  have hk : keysL 1 (allL l r) = putL (l.map (·.key)) (fndL (l.map (·.key)) r.key) r.key (hitL (l.map (·.key)) r.key) := by
    obtain ⟨e1, e2⟩ := leaf_find hw hn r.key
    unfold allL
    rw [keys_put, hks, e1, e2]
    congr 1
    exact leaf_keys hw hn
  have h := ris_put (leaf_ris hw hn) r.key
  rw [← hk, keys_len] at h
  exact h
theorem all_put : putE (leafP l) (findI (leafP l) r.key : Int) (encS r) (findB (leafP l) r.key) = 0 ∧ putR (leafP l) (findI (leafP l) r.key : Int) (encS r) (findB (leafP l) r.key) = { leafP l with rows := allL l r } := by
  obtain ⟨p1, p2⟩ := place_ok hw hn (r := r)
  have ha : atB (leafP l) (findI (leafP l) r.key : Int) (findB (leafP l) r.key) = true := by
    unfold atB
    rw [decide_eq_true (show (0 : Int) ≤ (findI (leafP l) r.key : Int) ∧ (findI (leafP l) r.key : Int) ≤ ((leafP l).rows.length : Nat) by omega), Bool.true_and]
    cases hb : findB (leafP l) r.key with
    | false => rfl
    | true =>
      have := p2 hb
      rw [decide_eq_false (by omega)]
      rfl
  have hk : keysB (putQ (leafP l) (findI (leafP l) r.key) (encS r) (findB (leafP l) r.key)) = true := by
    have h := all_up hw hn hr hm
    unfold keysB
    have e : headB (putQ (leafP l) (findI (leafP l) r.key) (encS r) (findB (leafP l) r.key)) = true := rfl
    rw [e, Bool.true_and]
    exact h
  have e : putE (leafP l) (findI (leafP l) r.key : Int) (encS r) (findB (leafP l) r.key) = 0 := by
    unfold putE
    rw [hn, ha, Int.toNat_natCast, hk]
    rfl
  refine ⟨e, ?_⟩
  unfold putR
  rw [if_pos e, Int.toNat_natCast]
  rfl
omit hr hm in
theorem all_used : used (allL l r) ≤ 649 ∧ ∀ j, j < (allL l r).length → (nth (allL l r) j).size ≤ 161 := by
  obtain ⟨p1, p2⟩ := place_ok hw hn (r := r)
  have h1 := put_used (leafP l).rows (findI (leafP l) r.key) (encS r) (findB (leafP l) r.key)
  have h2 := Page.may_used (Bool.and_eq_true_iff.1 hn).2
  have h3 := enc_small r
  refine ⟨by unfold allL; omega, fun j hj => ?_⟩
  have hg : (if findB (leafP l) r.key then findI (leafP l) r.key + 1 else findI (leafP l) r.key) ≤ (leafP l).rows.length := by
    cases hb : findB (leafP l) r.key with
    | true => exact p2 hb
    | false => exact p1
  unfold allL at hj ⊢
  rw [put_len p1] at hj
  rw [nth_put p1]
  split
  · exact leaf_small l (by omega)
  · split
    · exact h3
    · exact leaf_small l (by omega)
/-- too few to be split -/
theorem parts_few (h : (allL l r).length < 2) : splE (leafP l) (findI (leafP l) r.key : Int) (encS r) (findB (leafP l) r.key) = 2 := by
  obtain ⟨e1, e2⟩ := all_put hw hn hr hm
  unfold splE
  rw [e1, if_pos rfl, e2, if_pos]
  exact cut_none h
set_option maxHeartbeats 2000000 in
/-- both parts -/
theorem parts_facts (h : 2 ≤ (allL l r).length) : ∃ (A B : List ByteArray) (s ka kb : ByteArray),
    splE (leafP l) (findI (leafP l) r.key : Int) (encS r) (findB (leafP l) r.key) = 0 ∧
    splA (leafP l) (findI (leafP l) r.key : Int) (encS r) (findB (leafP l) r.key) = A ∧
    splB (leafP l) (findI (leafP l) r.key : Int) (encS r) (findB (leafP l) r.key) = B ∧
    splS (leafP l) (findI (leafP l) r.key : Int) (encS r) (findB (leafP l) r.key) = s ∧
    1 ≤ A.length ∧ 1 ≤ B.length ∧ A ++ B = allL l r ∧ A.length ≤ 200 ∧ B.length ≤ 200 ∧ used A ≤ 484 ∧ used B ≤ 484 ∧ s.size ≤ 1000 ∧ ka.size ≤ 1000 ∧ kb.size ≤ 1000 ∧
    Page.mayP ⟨1, 0, 5, 0, 77, A⟩ = true ∧ Page.mayP ⟨1, 0, 5, 0, 9, B⟩ = true ∧
    keyT ⟨1, 0, 5, 0, 77, A⟩ ((A.length : Int) - 1) = ka ∧ keyE ⟨1, 0, 5, 0, 77, A⟩ ((A.length : Int) - 1) = 0 ∧
    keyT ⟨1, 0, 5, 0, 9, B⟩ 0 = kb ∧ keyE ⟨1, 0, 5, 0, 9, B⟩ 0 = 0 ∧ cmpOf ka s < 0 ∧ cmpOf s kb ≤ 0 ∧
    mrgE ⟨1, 0, 5, 0, 77, A⟩ ⟨1, 0, 5, 0, 9, B⟩ = withE (leafP l) (findI (leafP l) r.key : Int) (encS r) (findB (leafP l) r.key) ∧
    mrgR ⟨1, 0, 5, 0, 77, A⟩ ⟨1, 0, 5, 0, 9, B⟩ = withR (leafP l) (findI (leafP l) r.key : Int) (encS r) (findB (leafP l) r.key) := by
  obtain ⟨e1, e2⟩ := all_put hw hn hr hm
  obtain ⟨u1, u2⟩ := all_used hw hn (r := r)
  have hup := all_up hw hn hr hm
  have hwE : withE (leafP l) (findI (leafP l) r.key : Int) (encS r) (findB (leafP l) r.key) = if used (allL l r) ≤ 484 then 0 else 4 := by
    unfold withE
    rw [e1, if_pos rfl, e2]
    have : Page.mayP { leafP l with rows := allL l r } = decide (used (allL l r) ≤ 484) := may_rows (Bool.and_eq_true_iff.1 hn).2 _
    rw [this]
    simp only [decide_eq_true_eq]
  have hwR : withR (leafP l) (findI (leafP l) r.key : Int) (encS r) (findB (leafP l) r.key) = if used (allL l r) ≤ 484 then { leafP l with rows := allL l r } else Pg.zero := by
    unfold withR
    rw [hwE, e2]
    by_cases hu : used (allL l r) ≤ 484
    · rw [if_pos hu, if_pos hu, if_pos rfl]
    · rw [if_neg hu, if_neg hu, if_neg (by decide)]
  have hc := cut_exists (Nat.le_refl 161) h u2 u1
  obtain ⟨c1, c2⟩ := cut_lt hc
  have hf : fitB (allL l r) (cutN (allL l r)) = true := bst_fit _ _ hc
  have hE : splE (leafP l) (findI (leafP l) r.key : Int) (encS r) (findB (leafP l) r.key) = 0 := by
    unfold splE
    rw [e1, if_pos rfl, e2]
    exact if_neg hc
  have hA : splA (leafP l) (findI (leafP l) r.key : Int) (encS r) (findB (leafP l) r.key) = (allL l r).take (cutN (allL l r)) := by
    unfold splA
    rw [if_pos hE, e2]
  have hB : splB (leafP l) (findI (leafP l) r.key : Int) (encS r) (findB (leafP l) r.key) = (allL l r).drop (cutN (allL l r)) := by
    unfold splB
    rw [if_pos hE, e2]
  have hS : splS (leafP l) (findI (leafP l) r.key : Int) (encS r) (findB (leafP l) r.key) = between (nth (keysL 1 (allL l r)) (cutN (allL l r) - 1)) (nth (keysL 1 (allL l r)) (cutN (allL l r))) := by
    unfold splS
    rw [if_pos hE, e2]
    rfl
  rw [hwE, hwR]
  clear hwE hwR e1 e2
  generalize cutN (allL l r) = c at *
  generalize allL l r = R at *
  have fa : used (R.take c) ≤ 484 := by
    unfold fitB at hf
    exact of_decide_eq_true (Bool.and_eq_true_iff.1 hf).1
  have fb : used (R.drop c) ≤ 484 := by
    unfold fitB at hf
    exact of_decide_eq_true (Bool.and_eq_true_iff.1 hf).2
  have la : (R.take c).length = c := by rw [List.length_take]; omega
  have lb : (R.drop c).length = R.length - c := List.length_drop
  have ma : Page.mayP ⟨1, 0, 5, 0, 77, R.take c⟩ = true := decide_eq_true ⟨Nat.le_of_ble_eq_true rfl, Nat.le_of_ble_eq_true rfl, Nat.le_of_ble_eq_true rfl, Nat.le_of_ble_eq_true rfl, fa⟩
  have mb : Page.mayP ⟨1, 0, 5, 0, 9, R.drop c⟩ = true := decide_eq_true ⟨Nat.le_of_ble_eq_true rfl, Nat.le_of_ble_eq_true rfl, Nat.le_of_ble_eq_true rfl, Nat.le_of_ble_eq_true rfl, fb⟩
  have na : nodeB ⟨1, 0, 5, 0, 77, R.take c⟩ = true := part_node (p := ⟨1, 0, 5, 0, 77, []⟩) (R := R) (n := 0) rfl rfl ma hup fun j hj => by
    rw [la] at hj
    exact ⟨by omega, by rw [nth_take2 hj, Nat.zero_add]⟩
  have nb : nodeB ⟨1, 0, 5, 0, 9, R.drop c⟩ = true := part_node (p := ⟨1, 0, 5, 0, 9, []⟩) (R := R) (n := c) rfl rfl mb hup fun j hj => by
    rw [lb] at hj
    exact ⟨by omega, nth_drop2⟩
  have ja : ((R.take c).length : Int) - 1 = ((c - 1 : Nat) : Int) := by rw [la]; omega
  obtain ⟨ka1, ka2⟩ := key_at na (j := c - 1) (by rw [la]; omega)
  obtain ⟨kb1, kb2⟩ := key_at nb (j := 0) (by rw [lb]; omega)
  have hlt : cmpOf (nth (keysL 1 R) (c - 1)) (nth (keysL 1 R) c) < 0 := by
    have hris : risB (keysL 1 R) R.length = true := by
      rw [← upB_ris (Nat.le_refl _) (fun j hj => upB_kB hup hj)]
      exact hup
    exact ris_lt hris (by omega) c2
  have eka : kS 1 (nth (R.take c) (c - 1)) = nth (keysL 1 R) (c - 1) := by rw [nth_keys (by omega), nth_take2 (by omega)]
  have ekb : kS 1 (nth (R.drop c) 0) = nth (keysL 1 R) c := by rw [nth_keys c2, nth_drop2]; rfl
  have sa : (nth (keysL 1 R) (c - 1)).size ≤ 161 := by rw [nth_keys (by omega)]; exact key_size (u2 _ (by omega))
  have sb : (nth (keysL 1 R) c).size ≤ 161 := by rw [nth_keys c2]; exact key_size (u2 _ c2)
  have hq : mrgQ ⟨1, 0, 5, 0, 77, R.take c⟩ ⟨1, 0, 5, 0, 9, R.drop c⟩ = { leafP l with rows := R } := by
    unfold mrgQ leafP
    show (⟨1, 0, 5, 0, 9, R.take c ++ R.drop c⟩ : Pg) = _
    rw [List.take_append_drop]
  have hkq : keysB { leafP l with rows := R } = true := by
    unfold keysB
    exact hup
  have hmq : Page.mayP { leafP l with rows := R } = decide (used R ≤ 484) := may_rows (Bool.and_eq_true_iff.1 hn).2 _
  have hmE : mrgE ⟨1, 0, 5, 0, 77, R.take c⟩ ⟨1, 0, 5, 0, 9, R.drop c⟩ = if used R ≤ 484 then 0 else 4 := by
    unfold mrgE
    rw [na, nb, hq, hkq, hmq]
    simp
  have hul := Page.used_len (R.take c)
  have hul2 := Page.used_len (R.drop c)
  refine ⟨_, _, _, nth (keysL 1 R) (c - 1), nth (keysL 1 R) c, hE, hA, hB, hS, by omega, by omega, List.take_append_drop _ _, by omega, by omega, fa, fb, ?_, by omega, by omega, ma, mb, ?_, ?_, ?_, kb2, sep_left hlt, sep_right hlt, hmE, ?_⟩
  · unfold between
    rw [if_pos hlt, ByteArray.size_extract]
    omega
  · rw [ja]
    exact ka1.trans eka
  · rw [ja]
    exact ka2
  · exact kb1.trans ekb
  · unfold mrgR
    rw [hmE, hq]
    by_cases hu : used R ≤ 484
    · rw [if_pos hu, if_pos hu, if_pos rfl]
    · rw [if_neg hu, if_neg hu, if_neg (by decide)]
end

end Go.Proofs.YtbdbnpcbbebelaaDoor.Node
