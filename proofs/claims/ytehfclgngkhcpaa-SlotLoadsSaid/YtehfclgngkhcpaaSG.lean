/- Plain: an area's size stays; texts of zeros. -/
import Derived.Test.YtehfclgngkhcpaaSH
namespace Go.Proofs.Ytehfclgngkhcpaa.Slot
open Go.RowKit

section
variable {a : A}
theorem putA_n (h : a.ok) (i : Int) (t : List UInt8) : (putA a i t).n = a.n := by
  unfold putA
  split
  · rename_i e
    unfold putE at e
    split at e
    · simp at e
    · split at e
      · simp at e
      · obtain ⟨r1, r2, r3, r4, r5, _⟩ := room_all h (t.length + 4)
        have := r5 (by omega)
        rw [← r2]
        exact lay_len r1 (by omega)
  · rfl
theorem remA_n (h : a.ok) (i : Int) : (remA a i).n = a.n := by
  unfold remA
  split
  · rename_i hp
    unfold hasP at hp
    exact (del_all h (i := i.toNat) (by omega)).1
  · rfl
end

/-- a text of m zeros -/
def zerosB (m : Nat) : ByteArray := ⟨(List.replicate m (0 : UInt8)).toArray⟩
theorem zeros_size (m : Nat) : (zerosB m).size = m := by
  show (List.replicate m (0 : UInt8)).length = m
  simp
theorem zeros_len (m : Nat) : (zerosB m).data.toList.length = m := zeros_size m
set_option maxRecDepth 100000 in
theorem zeros_conv (W : World) (m : Nat) : (convert 69 9 (.slice (some ⟨W.heap.size, 0, none⟩) m m)).run Try.prog (W.alloc (.cells (madeCells (Value.int .u8 0).cells m) 5)) = .ok (.string (zerosB m)) (W.alloc (.cells (madeCells (Value.int .u8 0).cells m) 5)) := by
  have h := run_convert_bytes_back (P := Try.prog) (W.alloc (.cells (madeCells (Value.int .u8 0).cells m) 5)) 69 9 5 ⟨W.heap.size, 0, none⟩ m (List.replicate m 0) Try.underlying69 Try.underlying5 Try.underlying9 (by
    intro j hj
    rw [List.length_replicate] at hj
    have e : (⟨W.heap.size, 0, none⟩ : Addr).add j = ⟨W.heap.size, j, none⟩ := by simp [Addr.add]; omega
    rw [e, World.cell?_alloc_mark]
    unfold madeCells
    simp [Value.cells, hj, Nat.mod_one])
  rw [List.length_replicate] at h
  exact h
set_option maxRecDepth 100000 in
theorem zeros_make (W : World) (m : Nat) (hm : m ≤ 1000000) : (Instr.makeSlice 69 (.int .i64 (m : Int)) (.int .i64 (m : Int))).run Try.prog W = .ok (.slice (some ⟨W.heap.size, 0, none⟩) m m) (W.alloc (.cells (madeCells (Value.int .u8 0).cells m) 5)) := by
  obtain ⟨i0, hi, hz0, hz1, hz2⟩ := info_parts Word.infoB
  have h := run_make (P := Try.prog) W 69 5 i0 (.int .u8 0) Try.underlying69 hi hz0 .i64 .i64 (m : Int) (m : Int) (by omega) (by omega) (by rw [hz2]; omega) (by omega)
  simpa [hz1] using h

end Go.Proofs.Ytehfclgngkhcpaa.Slot
