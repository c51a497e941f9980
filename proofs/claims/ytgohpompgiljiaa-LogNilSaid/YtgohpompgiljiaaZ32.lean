/-
  Walks: sealing.
-/
import Derived.Laws.MakeOwn
import Derived.Test.YtgohpompgiljiaaZ11
import Derived.Test.YtgohpompgiljiaaZ31
namespace Go.Proofs.Ytgohpompgiljiaa.Sum
open Go.RowKit

theorem info5 : (Try.prog.info? 5).map (fun i => (i.zero, i.size, i.bytes)) = some (some (.int .u8 0), 1, 1) := by kernel_rfl

/-- byte k of a number -/
def byteAt (n k : Nat) : UInt8 := UInt8.ofNat (n / 2 ^ (8 * k) % 256)
theorem byteAt_nat (n k : Nat) : ((byteAt n k).toNat : Int) = (n : Int) / 2 ^ (8 * k) % 256 := by
  unfold byteAt
  have e : ((n / 2 ^ (8 * k) : Nat) : Int) = (n : Int) / 2 ^ (8 * k) := by simp
  rw [← e]
  simp
theorem le4_take (n k : Nat) (h : k < 4) : (le4 n).take (k + 1) = (le4 n).take k ++ [byteAt n k] := by
  have e : k = 0 ∨ k = 1 ∨ k = 2 ∨ k = 3 := by omega
  rcases e with rfl | rfl | rfl | rfl <;> simp [le4, byteAt]

set_option maxRecDepth 100000 in
set_option maxHeartbeats 1000000 in
theorem seal_any (s : ByteArray) (w : World) (hs : s.size ≤ 281474976710) :
    Calls Try.prog 52 #[.string s] w fun e w' => e = .returned (.string ⟨(sealL s.data.toList).toArray⟩) ∧ Below w.heap.size w w' := by
  obtain ⟨y, hy⟩ : ∃ y, y = sealL s.data.toList := ⟨_, rfl⟩
  rw [← hy]
  have Y := Lib.hid hy
  clear hy
  obtain ⟨i0, hi, hz0, hz1, hz2⟩ := info_parts info5
  have hmk := run_make (P := Try.prog) w 55 5 i0 (.int .u8 0) Try.underlying55 hi hz0 .i64 .i64 0 ((s.size : Int) + 4) (by omega) (by omega) (by rw [hz2]; omega) (by omega)
  have e4 : ((s.size : Int) + 4).toNat = s.size + 4 := by omega
  rw [hz1, e4, Nat.mul_one, Int.toNat_zero] at hmk
  have hof := of_any s
  have hc := sumOf_lt s.data.toList
  obtain ⟨C, hC⟩ : ∃ C, C = sumOf s.data.toList := ⟨_, rfl⟩
  rw [← hC] at hof hc
  have OF := Lib.hid hof
  have HC := Lib.hid hC
  have hown := Lib.hid (World.ownsRowF_of (World.ownsRow_made w (madeCells #[Value.int IntKind.u8 0] (s.size + 4)) (e := 5) (size := 1) (base := w.heap.size) (s.size + 4) (Nat.le_refl _) (by unfold maxLen; omega) (by rw [size_madeCells, Nat.mul_one])))
  clear hof hC
  go_enter Try.func52, Try.ntmps52
  go_wp2_with (at_builtin; refine Lib.wpList_append_own_stringF _ rfl _ _ 55 9 rfl w.heap.size 5 i0 Try.underlying55 Try.underlying9 hi hz0 hz1 hz2 _ 0 [] rfl hown.out s rfl (by unfold maxLen; omega) (by omega) (by simp) ?_)
  intro v1 w1 o1 g1 n1
  have hb : Buf 5 w.heap.size v1 s.data.toList w w1 := by
    refine Buf.ofOwn ⟨?_, ?_, ?_⟩ n1
    · have e1 : s.data.toList.length = s.size := (Lib.size_eq _).symm
      rw [e1]; exact o1
    · exact ((Below.refl _ _).alloc (Nat.le_refl _) _).grown g1 (by simp) (by intro k hk; simp [Value.ownBlock] at hk; omega)
    · have := g1.size; simp at this; omega
  have h1 := Lib.hid hb
  clear hb o1 g1 n1 hmk
  go_wp2_with fail
  refine (OF.out _ (by unfold maxLen; omega)).mono ?_
  rintro e w2 ⟨rfl, b2⟩
  have h2 := Lib.hid (h1.out.later b2)
  clear h1 b2
  go_wp2_with fail
  go_loopw [3, 15] (fun v i wr => ∃ k : Nat, k ≤ 4 ∧ i = .int .i64 k ∧ Buf 5 w.heap.size v (s.data.toList ++ (le4 C).take k) w wr) (fun _ i _ => 4 - (intOf i).toNat)
  case atStart => exact ⟨0, by omega, by go_num, by rw [List.take_zero, List.append_nil]; exact h2.out⟩
  case round =>
    obtain ⟨k, hk, rfl, hb⟩ := hrel
    clear h2
    by_cases hlt : k < 4
    · have hb2 := Lib.hid hb
      clear hb
      have hl : (s.data.toList ++ (le4 C).take k).length + 1 ≤ 140737488355328 := by
        have e1 : s.data.toList.length = s.size := (Lib.size_eq _).symm
        rw [List.length_append, List.length_take, e1]
        omega
      have ht := le4_take C k hlt
      have T := Lib.hid ht
      clear ht
      go_wp2_with (at_builtin; refine wpList_buf_byte rfl _ _ 55 rfl Try.underlying55 hi hz0 hz1 hz2 rfl (byteAt C k) _ (byteAt_nat C k).symm hb2.out rfl hl ?_)
      intro v2 w3 hb3
      first | rw [List.append_assoc, ← T.out] at hb3 | rw [← T.out] at hb3
      have hb4 := Lib.hid hb3
      clear hb3
      go_wp2_with fail
      go_roundw
      case rel => exact ⟨k + 1, by omega, by go_num, hb4.out⟩
      case measure => simp [intOf]; omega
    · obtain rfl : k = 4 := by omega
      have e5 : (le4 C).take 4 = le4 C := rfl
      rw [e5] at hb
      have e6 : s.data.toList ++ le4 C = y := by rw [Y.out]; unfold sealL; rw [HC.out]
      rw [e6] at hb
      have hout := hb.out Try.underlying55 Try.underlying5 Try.underlying9
      have hbel := Lib.hid hb.below
      clear hb e5 e6
      go_wp2_with fail
      go_ret
      exact ⟨rfl, hbel.out⟩

end Go.Proofs.Ytgohpompgiljiaa.Sum
