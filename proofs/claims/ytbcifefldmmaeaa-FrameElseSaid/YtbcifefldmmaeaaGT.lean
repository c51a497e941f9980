/- Slices of texts: that came in, or were made; parts of them (any stage). -/
import Derived.Test.YtbcifefldmmaeaaSTX0
import Derived.Deep.Slices
import Derived.Deep.Fields
import Derived.Deep.Grids
import Derived.ChangeSame
import Derived.SizedLaws
import Derived.SliceStrings
import Derived.OpenShut
import Derived.BigQuiet
import Derived.Deep.QuietTactic
import Derived.Deep.DrawnRows
namespace Go.Proofs.Ytbcifefldmmaeaa.Strs
open Go.RowKit Go.ChangeShapes Go.WideShapes Go.Deep
open Go.Proofs.Ytbcifefldmmaeaa.Slot

def nth (l : List ByteArray) (k : Nat) : ByteArray := l.getD k .empty
theorem nth_take {l : List ByteArray} {k : Nat} (h : k < l.length) : l.take (k + 1) = l.take k ++ [nth l k] := by
  rw [List.take_succ_eq_append_getElem h]
  unfold nth
  rw [List.getD_eq_getElem?_getD, List.getElem?_eq_getElem h]
  rfl
theorem nth_get {l : List ByteArray} {k : Nat} (h : k < l.length) : l[k]? = some (nth l k) := by
  unfold nth
  rw [List.getD_eq_getElem?_getD, List.getElem?_eq_getElem h]
  rfl
theorem nth_elem {l : List ByteArray} {k : Nat} (h : k < l.length) : l[k] = nth l k := by
  have := nth_get h
  rw [List.getElem?_eq_getElem h] at this
  exact Option.some.inj this
/-- v is a slice of these texts -/
def Rows (w : World) (v : Value) (l : List ByteArray) : Prop :=
  ∃ ad c, v = .slice ad l.length c ∧ (l = [] ∨ ∃ b o, ad = some ⟨b, o, none⟩ ∧ b < w.heap.size ∧ ∀ j, j < l.length → w.cell? ⟨b, o + j, none⟩ = some (.string (nth l j)))
theorem Rows.far {w w' : World} {v : Value} {l : List ByteArray} (h : Rows w v l) (hs : w.heap.size ≤ w'.heap.size) (t : ∀ b, b < w.heap.size → w'.heap[b]? = w.heap[b]?) : Rows w' v l := by
  obtain ⟨ad, c, hv, h1⟩ := h
  refine ⟨ad, c, hv, h1.imp id ?_⟩
  rintro ⟨b, o, ha, hb, hc⟩
  refine ⟨b, o, ha, Nat.lt_of_lt_of_le hb hs, fun j hj => ?_⟩
  rw [World.cell?_of_block (t b hb)]
  exact hc j hj
theorem Rows.later {w w' : World} {v : Value} {l : List ByteArray} (h : Rows w v l) (t : Below w.heap.size w w') : Rows w' v l := h.far t.size t.block
theorem Rows.alloc {w : World} {v : Value} {l : List ByteArray} (h : Rows w v l) (o : Obj) : Rows (w.alloc o) v l := h.later ((Below.refl _ _).alloc (Nat.le_refl _) o)
theorem Rows.nil (w : World) (ad : Option Addr) (c : Nat) : Rows w (.slice ad 0 c) [] := ⟨ad, c, rfl, .inl rfl⟩
theorem Rows.at {w : World} {ad : Option Addr} {c : Nat} {l : List ByteArray} (h : Rows w (.slice ad l.length c) l) {k : Nat} (hk : k < l.length) :
    ∃ b o, ad = some ⟨b, o, none⟩ ∧ b < w.heap.size ∧ w.cell? ⟨b, o + k, none⟩ = some (.string (nth l k)) := by
  obtain ⟨ad', c', hv, h1⟩ := h
  simp only [Value.slice.injEq] at hv
  obtain ⟨rfl, _, rfl⟩ := hv
  rcases h1 with rfl | ⟨b, o, ha, hb, hc⟩
  · simp at hk
  · exact ⟨b, o, ha, hb, hc k hk⟩

theorem beq_yes (s : ByteArray) : (s.toList == s.toList) = true := by simp
theorem beq_no {s t : ByteArray} (h : s ≠ t) : (s.toList == t.toList) = false := by
  rw [beq_eq_false_iff_ne]
  intro e
  rw [Lib.toList_data, Lib.toList_data] at e
  exact h (ByteArray.ext (Array.toList_inj.1 e))

section
variable {H : Type} {enc : TypeId × Value → H} {W : World}
theorem weights_all {P : Program} {e : TypeId} : ∀ {l : List (DataW H)} {d : DataW H}, d ∈ l → ∀ n ∈ d.weights P e, n ∈ DataW.weightsAll P e l
  | [], _, h, _, _ => by cases h
  | x :: r, d, h, n, hn => by
    simp only [DataW.weightsAll, List.mem_append]
    rcases List.mem_cons.1 h with rfl | h
    · exact .inl hn
    · exact .inr (weights_all h n hn)

/-- a slice without an address has no room -/
def NilOk (v : Value) : Prop := ∀ n c, v = .slice none n c → c = 0
/-- a slice is no longer than its room -/
def CapOk (v : Value) : Prop := ∀ ad n c, v = .slice ad n c → n ≤ c ∧ (ad = none → c = 0)
set_option maxRecDepth 100000 in
theorem rows_cap {fuel : Nat} {v : Value} {y : DataW H × List MemPlace} (h : DataW.trod enc Try.prog W 0 (fun _ => true) true fuel 33 [v] = some y) : CapOk v := by
  rcases open_strings Try.underlying33 Try.underlying9 (by kernel_rfl) h with ⟨h1, _⟩ | ⟨a, len, cap, ss, h1, _, hl, hm, hx, hy, hc, _⟩
  · simp at h1
    subst h1
    intro ad n c e
    simp only [Value.slice.injEq] at e
    obtain ⟨rfl, rfl, rfl⟩ := e
    exact ⟨Nat.le_refl _, fun _ => rfl⟩
  · simp at h1
    subst h1
    intro ad n c e
    simp only [Value.slice.injEq] at e
    obtain ⟨rfl, rfl, rfl⟩ := e
    exact ⟨hl, fun h => by cases h⟩
set_option maxRecDepth 100000 in
/-- rows, as they come in -/
theorem rows_of {fuel : Nat} {v : Value} {y : DataW H × List MemPlace} (h : DataW.trod enc Try.prog W 0 (fun _ => true) true fuel 33 [v] = some y) (hz : ∀ n ∈ y.1.weights Try.prog 33, n ≤ 140737488351232) :
    ∃ l : List ByteArray, NilOk v ∧ Rows W v l ∧ l.length ≤ 140737488351232 ∧ ∀ j, j < l.length → (nth l j).size ≤ 140737488351232 := by
  rcases open_strings Try.underlying33 Try.underlying9 (by kernel_rfl) h with ⟨h1, _⟩ | ⟨a, len, cap, ss, h1, _, hl, hm, hx, hy, hc, _⟩
  · simp at h1
    subst h1
    exact ⟨[], (fun n c h => by cases h; rfl), Rows.nil W none 0, by simp, fun j hj => by simp at hj⟩
  · simp at h1
    subst h1
    simp only [if_true] at hx
    have hd : y.1 = .slice (strs (ss.take len)) (strs (ss.drop len)) := congrArg Prod.fst hy
    have hlen : (ss.take len).length = len := by rw [List.length_take]; omega
    have hn : ∀ j, j < len → nth (ss.take len) j = ss.getD j ByteArray.empty := fun j hj => by
      unfold nth
      rw [List.getD_eq_getElem?_getD, List.getD_eq_getElem?_getD, List.getElem?_take, if_pos hj]
    refine ⟨ss.take len, (fun n c h => by cases h), ?_, ?_, fun j hj => ?_⟩
    · by_cases h0 : len = 0
      · subst h0
        rw [List.take_zero]
        exact Rows.nil W _ _
      · have hcell := hc 0 (by omega)
        have hsp : a.spot = none := by
          obtain ⟨x, o, sp⟩ := a
          cases sp with
          | none => rfl
          | some s => simp [Addr.add, World.cell?] at hcell; split at hcell <;> simp at hcell
        obtain ⟨x, o, sp⟩ := a
        simp at hsp
        subst hsp
        have hadd : ∀ j, (⟨x, o, none⟩ : Addr).add j = ⟨x, o + j, none⟩ := fun j => by rw [Addr.add_mid]
        have hx0 : x < W.heap.size := by
          rw [hadd] at hcell
          exact block_lt_of_cell hcell
        refine ⟨some ⟨x, o, none⟩, cap, by rw [hlen], .inr ⟨x, o, rfl, hx0, fun j hj => ?_⟩⟩
        rw [hlen] at hj
        have := hc j (by omega)
        rw [hadd] at this
        rw [this, hn j hj]
    · rw [hlen]
      have := hz (((strs (ss.take len)).length + (strs (ss.drop len)).length) * Try.prog.bytesOf 9) (by
        rw [hd]
        simp only [DataW.weights, Try.underlying33]
        exact List.mem_cons_self ..)
      have hb : Try.prog.bytesOf 9 = 16 := by kernel_rfl
      rw [hb] at this
      have e : (strs (H := H) (ss.take len)).length = len := by unfold strs; rw [List.length_map, hlen]
      rw [e] at this
      omega
    · rw [hlen] at hj
      have hget : (ss.take len)[j]? = some (nth (ss.take len) j) := nth_get (by rw [hlen]; exact hj)
      refine hz _ ?_
      rw [hd]
      simp only [DataW.weights, Try.underlying33]
      refine List.mem_cons_of_mem _ (List.mem_append_left _ (weights_all (d := .lit (.string (nth (ss.take len) j).data.toList)) ?_ _ ?_))
      · unfold strs
        exact List.mem_map.2 ⟨nth (ss.take len) j, List.mem_of_getElem? hget, rfl⟩
      · simp [DataW.weights]

set_option maxRecDepth 100000 in
/-- a slice of texts that comes in -/
theorem strs_arg {B : Nat} {v : Value} {d : DataW H} {p : List MemPlace} (hv : Value.okWide Try.prog W .any B 33 v) (h : DataW.Trod enc Try.prog W 0 (fun _ => true) true 33 v d p) (hz : ∀ n ∈ d.weights Try.prog 33, n ≤ 140737488351232) :
    ∃ l : List ByteArray, (Rows W v l ∧ CapOk v) ∧ l.length ≤ 140737488351232 ∧ ∀ j, j < l.length → (nth l j).size ≤ 140737488351232 := by
  obtain ⟨a, len, cap, rfl⟩ := okWide_slice Try.underlying33 hv
  obtain ⟨fuel, hf⟩ := h
  obtain ⟨l, _, h2, h3, h4⟩ := rows_of hf hz
  exact ⟨l, ⟨h2, rows_cap hf⟩, h3, h4⟩
end
theorem cap_none : CapOk (.slice none 0 0) := by
  intro ad n c e
  simp only [Value.slice.injEq] at e
  obtain ⟨rfl, rfl, rfl⟩ := e
  exact ⟨Nat.le_refl _, fun _ => rfl⟩
theorem cap_tx {W0 w : World} {v : Value} {l : List ByteArray} (h : Tx W0 w v l) : CapOk v := by
  rcases h.form with ⟨rfl, rfl⟩ | ⟨g, cap, cur, rfl, h2, h3, h4, h5⟩
  · exact cap_none
  · intro ad n c e
    simp only [Value.slice.injEq] at e
    obtain ⟨rfl, rfl, rfl⟩ := e
    exact ⟨h4, fun h => by cases h⟩
theorem CapOk.nilOk {v : Value} (h : CapOk v) : NilOk v := fun n c e => (h none n c e).2 rfl
/-- the first ones -/
theorem rows_head {w : World} {v : Value} {l : List ByteArray} (h : Rows w v l) (hc : CapOk v) {k : Nat} (hk : k ≤ l.length) :
    ∃ x, (∀ W : World, (Instr.sliceAt 33 v none (some (.int .i64 (k : Int))) none).run Try.prog W = .ok x W) ∧ Rows w x (l.take k) ∧ CapOk x := by
  obtain ⟨ad, c, rfl, h1⟩ := h
  obtain ⟨g1, g2⟩ := hc _ _ _ rfl
  refine ⟨sliced ad 0 k c 1, fun W => ?_, ?_, ?_⟩
  · rw [run_sliceAt_slice (P := Try.prog) W 33 _ _ _ _ elem_strs, run_slice_h (P := Try.prog) W 33 _ _ _ elem_strs .i64 (k : Int) (by omega) (by omega), size_str]
    rfl
  · unfold sliced
    refine ⟨_, _, by rw [List.length_take, Nat.min_eq_left hk, Nat.sub_zero], ?_⟩
    rcases h1 with rfl | ⟨b, o, rfl, hb, hcell⟩
    · exact .inl (by rw [List.take_nil])
    · refine .inr ⟨b, o, ?_, hb, fun j hj => ?_⟩
      · split
        · rfl
        · rw [Option.map_some, Addr.add_mid]; simp
      · rw [List.length_take] at hj
        rw [hcell j (by omega)]
        unfold nth
        rw [List.getD_eq_getElem?_getD, List.getD_eq_getElem?_getD, List.getElem?_take, if_pos (by omega)]
  · intro ad' n c' e
    unfold sliced at e
    simp only [Value.slice.injEq] at e
    obtain ⟨rfl, rfl, rfl⟩ := e
    refine ⟨by omega, fun h => ?_⟩
    split at h
    · omega
    · have := g2 (Option.map_eq_none_iff.1 h); omega
/-- the other ones -/
theorem rows_tail {w : World} {v : Value} {l : List ByteArray} (h : Rows w v l) (hc : CapOk v) {k : Nat} (hk : k ≤ l.length) :
    ∃ x, (∀ W : World, (Instr.sliceAt 33 v (some (.int .i64 (k : Int))) none none).run Try.prog W = .ok x W) ∧ Rows w x (l.drop k) ∧ CapOk x := by
  obtain ⟨ad, c, rfl, h1⟩ := h
  obtain ⟨g1, g2⟩ := hc _ _ _ rfl
  refine ⟨sliced ad k l.length c 1, fun W => ?_, ?_, ?_⟩
  · rw [run_sliceAt_slice (P := Try.prog) W 33 _ _ _ _ elem_strs, run_slice_l (P := Try.prog) W 33 _ _ _ elem_strs .i64 (k : Int) (by omega) (by omega), size_str]
    rfl
  · unfold sliced
    refine ⟨_, _, by rw [List.length_drop], ?_⟩
    by_cases hkl : k = l.length
    · subst hkl
      exact .inl (List.drop_length ..)
    rcases h1 with rfl | ⟨b, o, rfl, hb, hcell⟩
    · exact .inl (by rw [List.drop_nil])
    · refine .inr ⟨b, o + k, ?_, hb, fun j hj => ?_⟩
      · rw [if_neg (by omega), Option.map_some, Addr.add_mid, Nat.mul_one]
      · rw [List.length_drop] at hj
        rw [Nat.add_assoc, hcell (k + j) (by omega)]
        unfold nth
        rw [List.getD_eq_getElem?_getD, List.getD_eq_getElem?_getD, List.getElem?_drop]
  · intro ad' n c' e
    unfold sliced at e
    simp only [Value.slice.injEq] at e
    obtain ⟨rfl, rfl, rfl⟩ := e
    refine ⟨by omega, fun h => ?_⟩
    split at h
    · omega
    · have := g2 (Option.map_eq_none_iff.1 h); omega

theorem ext_nth {l m : List ByteArray} (h : l.length = m.length) (e : ∀ j, j < l.length → nth l j = nth m j) : l = m := by
  apply List.ext_getElem? 
  intro j
  by_cases hj : j < l.length
  · rw [nth_get hj, nth_get (by omega), e j hj]
  · rw [List.getElem?_eq_none (by omega), List.getElem?_eq_none (by omega)]
theorem rows_tx {W0 w : World} {v : Value} {l : List ByteArray} (h : Tx W0 w v l) : Rows w v l := by
  rcases h.form with ⟨rfl, rfl⟩ | ⟨g, cap, cur, rfl, h2, h3, h4, h5⟩
  · exact Rows.nil w none 0
  · refine ⟨_, _, rfl, .inr ⟨g, 0, rfl, (Array.getElem?_eq_some_iff.1 h3).1, fun j hj => ?_⟩⟩
    rw [Nat.zero_add, cell_of_row _ _ _ _ _ _ h3]
    have : (cur.toList.take l.length)[j]? = (l.map Value.string)[j]? := by rw [h5]
    rw [List.getElem?_take, if_pos hj] at this
    rw [← Array.getElem?_toList, this, List.getElem?_map, nth_get hj]
    rfl

end Go.Proofs.Ytbcifefldmmaeaa.Strs
