/- Walks: which row, and which entry, bytes are. -/
import Derived.Test.YtobnenjhmkbdoaaDoorOA
namespace Go.Proofs.YtobnenjhmkbdoaaDoor.Row
open Go.RowKit
attribute [local go_sem ↓] Go.wp_at_zero Go.wp_at_succ

set_option maxRecDepth 100000 in
set_option maxHeartbeats 4000000 in
theorem reads_walk {w : World} {s : ByteArray} (hs : s.size ≤ 140737488351232) : Calls Tryd.prog 4 #[.string s] w fun e w' => e = .returned (.bool true) ∧ Below w.heap.size w w' := by
  have K1 := Lib.hid (fun W => decode_any s W hs)
  have K2 := Lib.hid (fun W => rdecode_any s W hs)
  have K3 := Lib.hid (fun W => (show Calls Tryd.prog 17 #[.string s] W fun e w' => e = .returned (.tuple #[enV (decN s), .int .i64 (decF s)]) ∧ Below W.heap.size W w' from dece_any s W hs))
  have K4 := Lib.hid (fun W => (show Calls Tryd.prog 18 #[.string s] W fun e w' => e = .returned (.tuple #[enV (decN s), .int .i64 (decF s)]) ∧ Below W.heap.size W w' from rdece_any s W hs))
  generalize decR s = r at *
  generalize decE s = E at *
  generalize decN s = n at *
  generalize decF s = F at *
  have B0 := Lib.hid (Below.refl w.heap.size w)
  by_cases hl : 1024 < s.size
  · clear K1 K2 K3 K4
    go_enter Tryd.func4, Tryd.ntmps4
    go_wp2_with fail
    refine (alive_any w).mono ?_
    rintro e w2 ⟨rfl, b2⟩
    have E := Lib.hid b2
    clear b2
    go_wp2_with fail
    go_ret
    exact ⟨rfl, E.out⟩
  · unfold rwV rwC enV enC at *
    go_enter Tryd.func4, Tryd.ntmps4
    go_wp2_with fail
    refine (K1.out _).mono ?_
    rintro e w1 ⟨rfl, b1⟩
    have B1 := Lib.hid (show Below w.heap.size w w1 from b1)
    clear b1 K1 B0
    go_wp2_with fail
    have A1 := Lib.hid (Bx.make r B1.out)
    change Calls _ _ _ (w1.alloc (.cells (rwC r) 28)) _
    generalize w1.alloc (.cells (rwC r) 28) = W1 at *
    generalize w1.heap.size = g1 at *
    clear B1
    refine (K2.out _).mono ?_
    rintro e w2 ⟨rfl, b2⟩
    have A2 := Lib.hid (A1.out.later b2)
    clear b2 A1 K2
    go_wp2_with fail
    have C2 := Lib.hid (Bx.make r A2.out.below)
    have A3 := Lib.hid (A2.out.later (below_new w2 (.cells (rwC r) 28)))
    change Calls _ _ _ (w2.alloc (.cells (rwC r) 28)) _
    generalize w2.alloc (.cells (rwC r) 28) = W2 at *
    generalize w2.heap.size = g2 at *
    clear A2
    refine (K3.out _).mono ?_
    rintro e w3 ⟨rfl, b3⟩
    have A4 := Lib.hid (A3.out.later b3)
    have C4 := Lib.hid (C2.out.later b3)
    clear b3 A3 C2 K3
    go_wp2_with fail
    have X4 := Lib.hid (Ex.make n A4.out.below)
    have bn := below_new w3 (.cells (enC n) 42)
    have A5 := Lib.hid (A4.out.later bn)
    have C5 := Lib.hid (C4.out.later bn)
    change Calls _ _ _ (w3.alloc (.cells (enC n) 42)) _
    generalize w3.alloc (.cells (enC n) 42) = W3 at *
    generalize w3.heap.size = g3 at *
    clear A4 C4 bn
    refine (K4.out _).mono ?_
    rintro e w4 ⟨rfl, b4⟩
    have A6 := A5.out.later b4
    have C6 := C5.out.later b4
    have X6 := X4.out.later b4
    have bn := below_new w4 (.cells #[.string n.key, .int .u32 (n.child : Int)] 42)
    have A7 := Lib.hid (A6.later bn)
    have C7 := Lib.hid (C6.later bn)
    have X7 := Lib.hid (X6.later bn)
    obtain ⟨a0, a1, a2, a3, a4, a5, a6⟩ := A7.out.all
    obtain ⟨c0, c1, c2, c3, c4, c5, c6⟩ := C7.out.all
    obtain ⟨d0, d1⟩ := X7.out.all
    clear A6 C6 X6 bn b4 A5 C5 X4 K4
    go_wp2_with fail
    refine (alive_any _).mono ?_
    rintro e w5 ⟨rfl, b5⟩
    have E := Lib.hid (A7.out.later b5).below
    clear b5 A7 C7 X7 a0 a1 a2 a3 a4 a5 a6 c0 c1 c2 c3 c4 c5 c6 d0 d1
    go_wp2_with fail
    go_ret
    exact ⟨rfl, E.out⟩

end Go.Proofs.YtobnenjhmkbdoaaDoor.Row
