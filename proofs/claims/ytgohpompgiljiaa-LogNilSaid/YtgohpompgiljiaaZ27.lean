/-
  Walks: New, and a sector of one byte.
-/
import Derived.Carry
import Derived.Test.YtgohpompgiljiaaZ25
import Derived.Test.YtgohpompgiljiaaZ26
namespace Go.Proofs.Ytgohpompgiljiaa.Disk
open Go.RowKit

def zeroS : List Value := Lib.byteCells (fullL 0)
theorem zeroS_eq : zeroS = List.replicate 128 (Value.int .u8 0) := by unfold zeroS fullL Lib.byteCells; rw [List.map_replicate]; rfl
theorem zeroS_len : zeroS.length = 128 := by rw [zeroS_eq]; exact List.length_replicate
theorem zeroS_get {i : Nat} (h : i < 128) : zeroS[i]? = some (.int .u8 0) := by rw [zeroS_eq, List.getElem?_replicate, if_pos h]
theorem made_sectors (n : Nat) : (madeCells zeroS.toArray (n * 128)).toList = flat (List.replicate n (fullL 0)) := by
  apply List.ext_getElem?
  intro i
  have h1 : ∀ t ∈ List.replicate n (fullL 0), t.length = 128 := by intro t ht; simp at ht; rw [ht.2]; exact fullL_len 0
  by_cases hi : i < n * 128
  · have e : i = i / 128 * 128 + i % 128 := by omega
    have e2 : (flat (List.replicate n (fullL 0)))[i]? = some (.int .u8 0) := by
      have hk : (List.replicate n (fullL 0))[i / 128]? = some (fullL 0) := by
        rw [List.getElem?_replicate, if_pos (by omega)]
      rw [e, flat_get h1 hk (by omega)]
      exact zeroS_get (by omega)
    rw [e2]
    have h3 : zeroS.toArray[i % zeroS.toArray.size]! = .int .u8 0 := by
      rw [List.size_toArray, zeroS_len, getElem!_def, List.getElem?_toArray, zeroS_get (by omega)]
    simp only [madeCells, Array.toList_map, List.getElem?_map, Array.toList_range, List.getElem?_range hi, Option.map_some, h3]
  · have e1 : (madeCells zeroS.toArray (n * 128)).toList.length = n * 128 := by rw [Array.length_toList, size_madeCells]
    have e2 := flat_len h1
    rw [List.getElem?_eq_none (by omega), List.getElem?_eq_none (by rw [e2, List.length_replicate]; omega)]

/-- new blocks -/
def Fresh (w w' : World) (b : Nat) : Prop := w.heap.size ≤ b ∧ b < w'.heap.size

set_option maxRecDepth 100000 in
theorem new_arg (n : Int) (w : World) (h : n < 1 ∨ 16384 < n) : Calls Try.prog 23 #[.int .i64 n] w fun e w' => e = .returned (.tuple #[.pointer none, .int .i64 2]) ∧ w = w' := by
  rcases h with h | h
  · have e1 : decide (n < 1) = true := decide_eq_true h
    clear h
    go_enter Try.func23, Try.ntmps23
    go_wp2
    go_ret2
    exact ⟨rfl, rfl⟩
  · have e1 : decide (n < 1) = false := decide_eq_false (by omega)
    have e2 : decide (16384 < n) = true := decide_eq_true h
    clear h
    go_enter Try.func23, Try.ntmps23
    go_wp2
    go_ret2
    exact ⟨rfl, rfl⟩

theorem rep_new (w : World) (n : Nat) (h1 : 1 ≤ n) (h2 : n ≤ 16384) :
    Rep ((w.alloc (.cells (madeCells zeroS.toArray (n * 128)) 92)).alloc (.cells #[.slice (some ⟨w.heap.size, 0, none⟩) n n, .slice none 0 0, .map none, .int .i64 (-1)] 84)) (w.heap.size + 1) (D.new n)
      (Fresh w ((w.alloc (.cells (madeCells zeroS.toArray (n * 128)) 92)).alloc (.cells #[.slice (some ⟨w.heap.size, 0, none⟩) n n, .slice none 0 0, .map none, .int .i64 (-1)] 84))) := by
  refine ⟨D.ok_new h1 h2, ⟨w.heap.size, n, .slice none 0 0, .map none, ⟨?_, ?_, World.ownsRow_nil _ _ _ _, .inl ⟨rfl, rfl⟩⟩, ⟨by omega, by simp⟩, ⟨by omega, by simp; omega⟩, by simp [Value.ownBlock], by simp⟩, fun b hb => hb.2⟩
  · have := heap_alloc2_new w (.cells (madeCells zeroS.toArray (n * 128)) 92) (.cells #[.slice (some ⟨w.heap.size, 0, none⟩) n n, .slice none 0 0, .map none, .int .i64 (-1)] 84)
    rw [this]
    simp [D.new]
  · have hl : (D.new n).sure.length = n := by simp [D.new]
    rw [hl]
    have hc : (madeCells zeroS.toArray (n * 128)).size = n * 128 := size_madeCells _ _
    refine ⟨?_, .inr ⟨w.heap.size, n, _, rfl, Nat.zero_le _, heap_alloc2_old w _ _, Nat.le_refl _, by unfold maxLen; omega, hc, ?_⟩⟩
    · rw [flat_len (D.ok_new h1 h2).each, hl]
    · rw [List.take_of_length_le (by rw [Array.length_toList, hc]; omega), made_sectors]; rfl

set_option maxRecDepth 100000 in
theorem build_disk (w : World) (gs n : Nat) : (Instr.build 84 #[(0, .slice (some ⟨gs, 0, none⟩) n n), (3, .int .i64 (-1))]).run Try.prog w = .ok (.agg #[.slice (some ⟨gs, 0, none⟩) n n, .slice none 0 0, .map none, .int .i64 (-1)]) w :=
  run_build w _ _ _ (by kernel_rfl)

set_option maxRecDepth 100000 in
theorem new_any (n : Nat) (w : World) (h1 : 1 ≤ n) (h2 : n ≤ 16384) : Calls Try.prog 23 #[.int .i64 n] w fun e w' => e = .returned (.tuple #[.pointer (some ⟨w.heap.size + 1, 0, none⟩), .int .i64 0]) ∧
    (Rep w' (w.heap.size + 1) (D.new n) (Fresh w w') ∧ Below w.heap.size w w') := by
  have hr := Lib.hid (show Rep ((w.alloc (.cells (madeCells zeroS.toArray (n * 128)) 92)).alloc (.cells #[.slice (some ⟨w.heap.size, 0, none⟩) n n, .slice none 0 0, .map none, .int .i64 (-1)] 84)) (w.heap.size + 1) (D.new n)
      (Fresh w ((w.alloc (.cells (madeCells zeroS.toArray (n * 128)) 92)).alloc (.cells #[.slice (some ⟨w.heap.size, 0, none⟩) n n, .slice none 0 0, .map none, .int .i64 (-1)] 84))) ∧
      Below w.heap.size w ((w.alloc (.cells (madeCells zeroS.toArray (n * 128)) 92)).alloc (.cells #[.slice (some ⟨w.heap.size, 0, none⟩) n n, .slice none 0 0, .map none, .int .i64 (-1)] 84)) from
      ⟨rep_new w n h1 h2, ((Below.refl _ _).alloc (Nat.le_refl _) _).alloc (by simp) _⟩)
  obtain ⟨i, hi, hz, hs, hby⟩ := info_parts infoS
  rw [← zeroS_eq] at hz
  have e1 : decide ((n : Int) < 1) = false := decide_eq_false (by omega)
  have e2 : decide (16384 < (n : Int)) = false := decide_eq_false (by omega)
  have hmk := run_make (P := Try.prog) w 80 92 i _ Try.underlying80 hi hz .i64 .i64 (n : Int) (n : Int) (by omega) (by omega) (by rw [hby]; omega) (by omega)
  have hzc : (Value.agg zeroS.toArray).cells = zeroS.toArray := rfl
  rw [hs, Int.toNat_natCast, hzc] at hmk
  have hbd := build_disk (w.alloc (.cells (madeCells zeroS.toArray (n * 128)) 92)) w.heap.size n
  generalize madeCells zeroS.toArray (n * 128) = cs at *
  clear h1 h2 hs hby hz hi hzc
  go_enter Try.func23, Try.ntmps23
  go_wp2
  go_ret2
  exact ⟨rfl, hr.out⟩

/-- a sector of one byte, so far -/
def fillC (c : Int) (k : Nat) : Array Value := (List.replicate k (Value.int .u8 c) ++ List.replicate (128 - k) (Value.int .u8 0)).toArray
theorem fillC_get (c : Int) (k : Nat) (h : k < 128) : (fillC c k)[k]? = some (.int .u8 0) := by
  unfold fillC
  rw [List.getElem?_toArray, List.getElem?_append_right (by rw [List.length_replicate]; omega), List.length_replicate, List.getElem?_replicate, if_pos (by omega)]
theorem fillC_set (c : Int) (k : Nat) (h : k < 128) : (fillC c k).setIfInBounds k (.int .u8 c) = fillC c (k + 1) := by
  apply Array.toList_inj.1
  rw [Array.toList_setIfInBounds]
  unfold fillC
  have e1 : 128 - k = (128 - (k + 1)) + 1 := by omega
  rw [e1, List.replicate_succ, List.toList_toArray, List.toList_toArray, List.set_append_right _ _ (by rw [List.length_replicate]; omega), List.length_replicate, Nat.sub_self, List.set_cons_zero, List.replicate_succ', List.append_assoc, List.singleton_append]
theorem fillC_zero (c : Int) : madeCells #[Value.int .u8 0] 128 = fillC c 0 := by
  apply Array.toList_inj.1
  rw [toList_madeCells_one]
  rfl
theorem fillC_full (c : UInt8) : (fillC (c.toNat : Int) 128).toList = Lib.byteCells (fullL c) := by
  unfold fillC fullL Lib.byteCells
  rw [List.map_replicate, List.toList_toArray]
  exact List.append_nil _

end Go.Proofs.Ytgohpompgiljiaa.Disk
