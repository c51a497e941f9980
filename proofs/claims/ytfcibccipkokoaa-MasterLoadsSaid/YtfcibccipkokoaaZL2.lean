/- Walks: which of what two sectors have is loaded. -/
import Derived.Test.YtfcibccipkokoaaZCC
import Derived.Deep.RegionHeld3
namespace Go.Proofs.Ytfcibccipkokoaa.Mas
open Go.RowKit
open Go.Proofs.Ytfcibccipkokoaa.Disk (D Rep Own now burnt fullL)
attribute [local go_sem ↓] Go.wp_at_zero Go.wp_at_succ

theorem own_write {w wi : World} {E : Nat → Prop} {p : Nat} {d d' : D} (S : Own w wi E [(p, d)]) (hf : d.fuse ≠ 0) {k : Nat} (hk : k < d.sure.length) (s : ByteArray) (hs : s.size = 128) (hl : d.loose.length ≤ 1000000000) (h : d.write k s.data.toList = d') :
    Calls Try.prog 21 #[.pointer (some ⟨p, 0, none⟩), .int .i64 (k : Int), .string s] wi fun e w' => e = .returned (.int .i64 0) ∧ Own w w' E [(p, d')] := by
  obtain ⟨F, r, _, c⟩ := S.call (i := 0) rfl
  refine (Disk.write_any r hf hk s hs hl).mono fun e w' ⟨h1, h2⟩ => ⟨h1, ?_⟩
  rw [← h]
  exact (c w' _ h2).1
theorem own_load_arg {w wi : World} {E : Nat → Prop} {p : Nat} {d : D} (S : Own w wi E [(p, d)]) (hf : d.fuse ≠ 0) (n : Nat) (hn : n ≤ 1000000) (hr : d.sure.length ≤ n + 1) :
    Calls Try.prog 22 #[.pointer (some ⟨p, 0, none⟩), .int .i64 (n : Int)] wi fun e w' => e = .returned (.tuple #[msV Ms.zero, .int .i64 2]) ∧ Below wi.heap.size wi w' := by
  obtain ⟨F, r, _⟩ := S.call (i := 0) rfl
  exact load_arg r hf n hn hr
theorem back_list (x : ByteArray) : (⟨x.data.toList.toArray⟩ : ByteArray) = x := ByteArray.ext (Array.toList_inj.1 (by simp))
def loadsD (x y : ByteArray) : D := ((D.new 5).write 2 x.data.toList).write 3 y.data.toList
theorem loads_now2 (x y : ByteArray) : nowB (loadsD x y) 2 = x := back_list x
theorem loads_now3 (x y : ByteArray) : nowB (loadsD x y) 3 = y := back_list y

set_option maxRecDepth 100000 in
set_option maxHeartbeats 8000000 in
theorem loads_walk {w : World} {a b : Ms} {o1 o2 : Int} {s t : ByteArray} (ha : a.wf) (hb : b.wf) (h1 : 0 ≤ o1 ∧ o1 ≤ 255) (h2 : 0 ≤ o2 ∧ o2 ≤ 255) (hs : s.size ≤ 140737488351232) (ht : t.size ≤ 140737488351232) :
    Calls Try.prog 5 #[msV a, msV b, .int .u8 o1, .int .u8 o2, .string s, .string t] w fun e w' => e = .returned (.bool true) ∧ Below w.heap.size w w' := by
  obtain ⟨k1, rfl⟩ : ∃ k : Nat, o1 = (k : Int) := ⟨o1.toNat, by omega⟩
  obtain ⟨k2, rfl⟩ : ∃ k : Nat, o2 = (k : Int) := ⟨o2.toNat, by omega⟩
  have T0 := Lib.hid (Tb.new a b (Below.refl w.heap.size w))
  have KW := Lib.hid works_any
  have KN := Lib.hid (fun W => show Calls Try.prog 19 #[.int .i64 5] W _ from Disk.new_any 5 W (by omega) (by omega))
  have KS1 := Lib.hid (fun (h : s.size ≤ 1000) W => show Calls Try.prog 20 #[msV a, msV b, .int .u8 (k1 : Int), .string s] W fun e w' => e = .returned (.string (secB a b k1 s)) ∧ Below W.heap.size W w' from sector_any a b k1 s W ha hb (by omega) h)
  have KS2 := Lib.hid (fun (h : t.size ≤ 1000) W => show Calls Try.prog 20 #[msV a, msV b, .int .u8 (k2 : Int), .string t] W fun e w' => e = .returned (.string (secB a b k2 t)) ∧ Below W.heap.size W w' from sector_any a b k2 t W ha hb (by omega) h)
  have ZX := Lib.hid (show (secB a b k1 s).size = 128 from padB_size _)
  have ZY := Lib.hid (show (secB a b k2 t).size = 128 from padB_size _)
  have KL0 := Lib.hid (fun W => show Calls Try.prog 22 #[.pointer none, .int .i64 2] W _ from load_nil 2 W (by omega))
  clear ha hb
  generalize secB a b k1 s = x at *
  generalize secB a b k2 t = y at *
  unfold msV at *
  generalize hC : msC a = C at *
  generalize hC2 : msC b = C2 at *
  unfold msC at hC hC2
  subst hC hC2
  go_enter Try.func5, Try.ntmps5
  by_cases hx : 200 < s.size ∨ ¬ 200 < s.size ∧ 200 < t.size
  · have B1 := Lib.hid T0.out.a.below
    clear T0 KN KS1 KS2 KL0
    rcases hx with hA | ⟨hB, hA⟩
    all_goals
      go_wp2_with fail
      refine (KW.out _).mono ?_
      rintro e w2 ⟨rfl, k2⟩
      have B2 := Lib.hid (B1.out.trans (k2.mono B1.out.size))
      clear k2 B1
      go_wp2_with fail
      go_ret
      exact ⟨rfl, B2.out⟩
  obtain ⟨hl0, hl1⟩ : ¬ 200 < s.size ∧ ¬ 200 < t.size := by omega
  have KX := Lib.hid (KS1.out (by omega))
  have KY := Lib.hid (KS2.out (by omega))
  clear hx KS1 KS2
  go_wp2_with fail
  refine (KN.out _).mono ?_
  rintro e w1 ⟨rfl, r1, k1'⟩
  obtain ⟨wz, hwz⟩ : ∃ wz, wz = (w.alloc (.cells (msC a) 40)).alloc (.cells (msC b) 40) := ⟨_, rfl⟩
  unfold msC at hwz
  rw [← hwz] at r1 k1' T0 ⊢
  have T1 := Lib.hid (T0.out.later k1')
  have S1 := Lib.hid (own_start ⟨r1, k1'⟩)
  have BZ := Lib.hid T0.out.a.below
  clear hwz r1 k1' T0 KN
  generalize wz.heap.size + 1 = p at *
  have T2 := Lib.hid (T1.out.later ((Below.refl _ _).drew))
  have S2 := Lib.hid (S1.out.later ((Below.refl _ _).drew))
  clear S1
  obtain ⟨gb, hgb⟩ : ∃ g, g = w.heap.size + 1 := ⟨_, rfl⟩
  obtain ⟨ga, hga⟩ : ∃ g, g = w.heap.size := ⟨_, rfl⟩
  have T3 : Hid (Tb w w1.drew ga gb a b) := Lib.hid (by rw [hga, hgb]; exact T2.out)
  go_wp2_with fail
  rw [← hgb, ← hga]
  clear hga hgb T1 T2
  go_region_held3 (fun w' => (w'.cell? ⟨ga, 0, none⟩ = some (.int .u64 (a.count : Int)) ∧ w'.cell? ⟨ga, 1, none⟩ = some (.int .u64 (a.life : Int)) ∧ w'.cell? ⟨ga, 2, none⟩ = some (.int .u64 (a.check : Int)) ∧ w'.cell? ⟨ga, 3, none⟩ = some (.int .u64 (a.first : Int)) ∧ w'.cell? ⟨ga, 4, none⟩ = some (.bool a.clean)) ∧ (w'.cell? ⟨gb, 0, none⟩ = some (.int .u64 (b.count : Int)) ∧ w'.cell? ⟨gb, 1, none⟩ = some (.int .u64 (b.life : Int)) ∧ w'.cell? ⟨gb, 2, none⟩ = some (.int .u64 (b.check : Int)) ∧ w'.cell? ⟨gb, 3, none⟩ = some (.int .u64 (b.first : Int)) ∧ w'.cell? ⟨gb, 4, none⟩ = some (.bool b.clean))) (first | exact ⟨T3.out.a.five, T3.out.b.five⟩ | exact ⟨T4.a.five, T4.b.five⟩ | exact ⟨T5.a.five, T5.b.five⟩)
    (first
      | (go_at_call 20; (with_reducible refine (KX.out _).mono ?_); rintro e w2 ⟨rfl, b2⟩; have T4 := T3.out.later b2; have S4 := S2.out.later b2; clear b2)
      | (go_at_call 20; (with_reducible refine (KY.out _).mono ?_); rintro e w3 ⟨rfl, b3⟩; have T5 := T4.later b3; have S5 := S4.later b3; clear b3))
  have S6 := Lib.hid S5
  clear S2 S4 S5 T3 T4 T5 KX KY
  have C1 : Hid (Calls Try.prog 21 #[.pointer (some ⟨p, 0, none⟩), .int .i64 2, .string x] w3 fun e w' => e = .returned (.int .i64 0) ∧ Own wz w' (fun _ => False) [(p, (D.new 5).write 2 x.data.toList)]) := Lib.hid (own_write S6.out (by decide) (k := 2) (by decide) x ZX.out (by decide) rfl)
  clear S6
  go_wp2_with fail
  refine C1.out.mono ?_
  rintro e w4 ⟨rfl, s7⟩
  have C2 : Hid (Calls Try.prog 21 #[.pointer (some ⟨p, 0, none⟩), .int .i64 3, .string y] w4 fun e w' => e = .returned (.int .i64 0) ∧ Own wz w' (fun _ => False) [(p, loadsD x y)]) := Lib.hid (own_write s7 (show burnt (-1) ≠ 0 by decide) (k := 3) (show 3 < ((D.new 5).write 2 x.data.toList).sure.length by show 3 < (D.new 5).sure.length; decide) y ZY.out (show 1 ≤ _ by decide) rfl)
  clear s7 C1
  go_wp2_with fail
  refine C2.out.mono ?_
  rintro e w5 ⟨rfl, s8⟩
  have S8 := Lib.hid s8
  clear s8 C2
  have FU : (loadsD x y).fuse ≠ 0 := show burnt (burnt (-1)) ≠ 0 by decide
  have LN : (loadsD x y).sure.length = 5 := show (D.new 5).sure.length = 5 by decide
  have L1 := Lib.hid (show Calls Try.prog 22 #[.pointer (some ⟨p, 0, none⟩), .int .i64 2] w5 _ from own_load S8.out FU 2 (by rw [LN]; omega) (m := loadM x y) (x := loadE x y) (by rw [loads_now2, loads_now3]; exact ⟨rfl, rfl⟩))
  have L2 := Lib.hid (fun W (b : Below w5.heap.size w5 W) => show Calls Try.prog 22 #[.pointer (some ⟨p, 0, none⟩), .int .i64 4] W _ from own_load_arg (S8.out.later b) FU 4 (by omega) (by rw [LN]; omega))
  have KR := Lib.hid (fun W => rload_any x y W)
  unfold LoadP at KR
  have B5 := Lib.hid (show Below w.heap.size w w5 from BZ.out.trans (S8.out.below.mono BZ.out.size))
  have B55 := Lib.hid (show w.heap.size ≤ w5.heap.size from Nat.le_trans BZ.out.size S8.out.below.size)
  clear S8 BZ FU LN ZX ZY
  generalize loadM x y = m at *
  generalize loadE x y = e' at *
  unfold msV at *
  generalize hC : msC m = C at *
  unfold msC at hC
  subst hC
  have hZ : msC Ms.zero = #[.int .u64 0, .int .u64 0, .int .u64 0, .int .u64 0, .bool false] := rfl
  rw [hZ] at L2 KL0
  go_wp2_with fail
  refine L1.out.mono ?_
  rintro e w6 ⟨rfl, b6⟩
  have A7 := Lib.hid (At.new w6 m)
  have B7 := Lib.hid (b6.trans ((below_new w6 (.cells (msC m) 40)).mono b6.size))
  unfold msC at A7 B7
  clear b6 L1
  go_upto_region 10 with fail
  generalize w6.heap.size = g7 at *
  generalize World.alloc w6 _ = w7 at *
  go_wp2_with fail
  refine (KR.out _).mono ?_
  rintro e w8 ⟨rfl, b8⟩
  have A9 := Lib.hid ((A7.out.later b8).later (below_new w8 (.cells (msC m) 40)))
  have X9 := Lib.hid (At.new w8 m)
  have B9 := Lib.hid (B7.out.trans ((b8.trans ((below_new w8 (.cells (msC m) 40)).mono b8.size)).mono B7.out.size))
  unfold msC at A9 X9 B9
  clear b8 KR A7 B7
  go_upto_region 11 with fail
  generalize w8.heap.size = g9 at *
  generalize World.alloc w8 _ = w9 at *
  go_wp2_with fail
  refine (L2.out _ B9.out).mono ?_
  rintro e w10 ⟨rfl, b10⟩
  have A11 := Lib.hid ((A9.out.later b10).later (below_new w10 (.cells (msC Ms.zero) 40)))
  have X11 := Lib.hid ((X9.out.later b10).later (below_new w10 (.cells (msC Ms.zero) 40)))
  have B11 := Lib.hid (B9.out.trans ((b10.trans ((below_new w10 (.cells (msC Ms.zero) 40)).mono b10.size)).mono B9.out.size))
  rw [hZ] at A11 X11 B11
  clear b10 L2 A9 X9 B9
  go_upto_region 12 with fail
  generalize World.alloc w10 _ = w11 at *
  go_wp2_with fail
  refine (KL0.out _).mono ?_
  rintro e w12 ⟨rfl, b12⟩
  have A13 := Lib.hid ((A11.out.later b12).later (below_new w12 (.cells (msC Ms.zero) 40)))
  have X13 := Lib.hid ((X11.out.later b12).later (below_new w12 (.cells (msC Ms.zero) 40)))
  have B13 := Lib.hid (B11.out.trans ((b12.trans ((below_new w12 (.cells (msC Ms.zero) 40)).mono b12.size)).mono B11.out.size))
  rw [hZ] at A13 X13 B13
  clear b12 KL0 A11 X11 B11
  go_upto_region 13 with fail
  generalize World.alloc w12 _ = w13 at *
  obtain ⟨a0, a1, a2, a3, a4⟩ := A13.out.five
  obtain ⟨x0, x1, x2, x3, x4⟩ := X13.out.five
  go_wp2_with fail
  refine (KW.out _).mono ?_
  rintro e w14 ⟨rfl, b14⟩
  have BE := Lib.hid (B5.out.trans ((B13.out.trans (b14.mono B13.out.size)).mono B55.out))
  clear b14 KW A13 X13 B13 B5
  go_wp2_with fail
  go_ret
  exact ⟨rfl, BE.out⟩

end Go.Proofs.Ytfcibccipkokoaa.Mas
