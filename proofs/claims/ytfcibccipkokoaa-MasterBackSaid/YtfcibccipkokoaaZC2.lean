/- Walks: where a master's numbers are kept. -/
import Derived.Test.YtfcibccipkokoaaZC1
import Derived.Deep.RegionHeld3
import Derived.StillTailTactics
import Derived.Test.YtfcibccipkokoaaTL
import Derived.Deep.DeepCutAuto
import Derived.Outline
import Derived.Laws.CopyOwn
import Derived.Laws.Tables
namespace Go.Proofs.Ytfcibccipkokoaa.Mas
open Go.RowKit
attribute [local go_sem ↓] Go.wp_at_zero Go.wp_at_succ

/-- four pointers to a master's numbers -/
def fourC (g : Nat) : Array Value := #[.pointer (some ⟨g, 0, none⟩), .pointer (some ⟨g, 1, none⟩), .pointer (some ⟨g, 2, none⟩), .pointer (some ⟨g, 3, none⟩)]
def nilsC : Array Value := #[.pointer none, .pointer none, .pointer none, .pointer none]
theorem info_four : (Try.prog.info? 119).map (·.size) = some 4 := by kernel_rfl

theorem four_one (g : Nat) : (fourC g).all (·.oneCell') = true := Array.all_eq_true_iff_forall_mem.2 (by
  intro v hv
  simp [fourC] at hv
  rcases hv with rfl | rfl | rfl | rfl <;> rfl)
theorem results_row {fn : Func} {p : Tmp} {T e : TypeId} {n : Nat} (h : fn.results = #[.cell p T]) (tmps : Array Value) (w : World) (g : Nat) (cs : Array Value) (hp : tmps.getD p undef = .pointer (some ⟨g, 0, none⟩)) (hg : w.heap[g]? = some (.cells cs T (0, 0)))
    (hu : Try.prog.underlying T = some (.array n e)) (hi : (Try.prog.info? T).map (·.size) = some cs.size) : (results fn tmps).run Try.prog w = .ok (.agg cs) w := by
  have hp' : tmps[p]?.getD undef = .pointer (some ⟨g, 0, none⟩) := by simpa using hp
  simp [results, h, hp', asAddr, run_loadVar_row w g T T cs (0, 0) _ hg hu rfl hi]

set_option maxRecDepth 100000 in
set_option maxHeartbeats 1000000 in
theorem numbers_any (g : Nat) (w : World) :
    Calls Try.prog 67 #[.pointer (some ⟨g, 0, none⟩)] w fun e w' => e = .returned (.agg (fourC g)) ∧ Below w.heap.size w w' := by
  have B := Lib.hid (below_new w (.cells nilsC 119))
  have H := Lib.hid (heap_alloc_new w (.cells nilsC 119))
  go_enter Try.func67, Try.ntmps67
  go_wp2_with fail
  (refine wp_region_still_tail 13 (by kernel_rfl) (by kernel_rfl) (still_of_quiet _ _ ?_); simp only [List.take_succ_cons, List.take_zero, List.drop_succ_cons, List.drop_zero]; (repeat (first | go_big_quiet_skip | (go_big_quiet_want; go_big_quiet_op; first | go_big_quiet_on | (apply Exists.intro; refine ⟨?_, ?_⟩; (first | fail); go_big_quiet_on)))); refine wpQuiet_nil ?_)
  change wpList _ _ _ _ _ (w.alloc (.cells nilsC 119)).drew
  have HB : Hid (((w.alloc (.cells nilsC 119)).drew).heap[w.heap.size]? = some (.cells nilsC 119 (0, 0))) := Lib.hid H.out
  have BB : Hid (Below w.heap.size w (w.alloc (.cells nilsC 119)).drew) := Lib.hid B.out.drew
  generalize (w.alloc _).drew = W at *
  clear H B
  go_wp2_with (refine wpList_store_row rfl 119 _ _ rfl w.heap.size (fourC g) rfl rfl 119 nilsC HB.out info_four rfl (four_one _) ?_)
  exact bodyPost_ret (v := .agg (fourC g)) (results_row Try.results67 _ _ w.heap.size (fourC g) rfl (setRow_heap _ _ _ _ _ _ HB.out) Try.underlying119 info_four) rfl ⟨rfl, below_setRow BB.out (Nat.le_refl _) _⟩

/-! ### reading -/
/-- two boxes of masters, both of the call's own -/
structure Tb (w0 w : World) (r g : Nat) (z q : Ms) : Prop where
  a : Mb w0 w r z
  b : Mb w0 w g q
  ne : r ≠ g
section
variable {w0 w w' : World} {r g : Nat} {z q q' : Ms}
theorem Tb.later (h : Tb w0 w r g z q) (b : Below w.heap.size w w') : Tb w0 w' r g z q := ⟨h.a.later b, h.b.later b, h.ne⟩
theorem Tb.new {w0 w : World} (z q : Ms) (b : Below w0.heap.size w0 w) : Tb w0 ((w.alloc (.cells (msC z) 40)).alloc (.cells (msC q) 40)) w.heap.size (w.heap.size + 1) z q := by
  have h1 := Mb.new z b
  obtain ⟨w1, e1⟩ : ∃ x, x = w.alloc (.cells (msC z) 40) := ⟨_, rfl⟩
  rw [← e1] at h1 ⊢
  have z1 : w1.heap.size = w.heap.size + 1 := by rw [e1]; simp
  have h2 := Mb.new q h1.below
  rw [← z1]
  exact ⟨h1.later (below_new _ _), h2, by omega⟩
theorem Tb.set (h : Tb w0 w r g z q) (j : Nat) (v : Value) (e : (msC q).setIfInBounds j v = msC q') : Tb w0 (w.setCell ⟨g, j, none⟩ v) r g z q' := by
  refine ⟨⟨by rw [heap_setCell_other _ _ _ _ (show r ≠ g from h.ne)]; exact h.a.box, h.a.own, h.a.below.setCell h.b.own v⟩, ⟨by rw [heap_setCell_same w g j _ _ _ h.b.box, e], h.b.own, h.a.below.setCell h.b.own v⟩, h.ne⟩
end
/-- the first numbers of a master -/
def upTo (k : Nat) (m : Ms) : Ms := ⟨if 0 < k then m.count else 0, if 1 < k then m.life else 0, if 2 < k then m.check else 0, if 3 < k then m.first else 0, false⟩
theorem info_ms : (Try.prog.info? 40).map (·.size) = some 5 := by kernel_rfl
theorem ms_one (m : Ms) : (msC m).all (·.oneCell') = true := Array.all_eq_true_iff_forall_mem.2 (by
  intro v hv
  simp [msC] at hv
  rcases hv with rfl | rfl | rfl | rfl | rfl <;> rfl)
theorem results_one {fn : Func} {p : Tmp} {T : TypeId} {f : Array Field} (h : fn.results = #[.cell p T]) (tmps : Array Value) (w : World) (g : Nat) (cs : Array Value) (hp : tmps.getD p undef = .pointer (some ⟨g, 0, none⟩)) (hg : w.heap[g]? = some (.cells cs T (0, 0)))
    (hu : Try.prog.underlying T = some (.struct f)) (hi : (Try.prog.info? T).map (·.size) = some cs.size) : (results fn tmps).run Try.prog w = .ok (.agg cs) w := by
  have hp' : tmps[p]?.getD undef = .pointer (some ⟨g, 0, none⟩) := by simpa using hp
  simp [results, h, hp', asAddr, run_loadVar_row w g T T cs (0, 0) _ hg hu rfl hi]
theorem results_two {fn : Func} {p k : Tmp} {T : TypeId} {f : Array Field} (h : fn.results = #[.cell p T, .tmp k]) (tmps : Array Value) (w : World) (g : Nat) (cs : Array Value) (c : Int) (hp : tmps.getD p undef = .pointer (some ⟨g, 0, none⟩)) (hk : tmps.getD k undef = .int .i64 c) (hg : w.heap[g]? = some (.cells cs T (0, 0)))
    (hu : Try.prog.underlying T = some (.struct f)) (hi : (Try.prog.info? T).map (·.size) = some cs.size) : (results fn tmps).run Try.prog w = .ok (.tuple #[.agg cs, .int .i64 c]) w := by
  have hp' : tmps[p]?.getD undef = .pointer (some ⟨g, 0, none⟩) := by simpa using hp
  have hk' : tmps[k]?.getD undef = .int .i64 c := by simpa using hk
  simp [results, h, hp', hk', asAddr, run_loadVar_row w g T T cs (0, 0) _ hg hu rfl hi]

set_option maxRecDepth 100000 in
set_option maxHeartbeats 4000000 in
theorem read_any (s : ByteArray) (w : World) (hs : s.size ≤ 281474976710656) :
    Calls Try.prog 42 #[.string s] w fun e w' => e = .returned (msV (rdM s)) ∧ Below w.heap.size w w' := by
  have T0 := Lib.hid (Tb.new Ms.zero (upTo 0 (rdM s)) (Below.refl w.heap.size w))
  obtain ⟨m, hm⟩ : ∃ m, m = rdM s := ⟨_, rfl⟩
  have K : ∀ (k : Nat) W, k ≤ 3 → Calls Try.prog 63 #[.string s, .int .i64 ((1 + 8 * k : Nat) : Int), .int .i64 8] W fun e w' => e = .returned (.tuple #[.int .u64 ((if k = 0 then m.count else if k = 1 then m.life else if k = 2 then m.check else m.first : Nat) : Int), .bool (getB s ((1 + 8 * k : Nat) : Int) 8)]) ∧ W = w' := fun k W hk => by
    have C := get_at s (1 + 8 * k) W hs (by omega)
    have e : k = 0 ∨ k = 1 ∨ k = 2 ∨ k = 3 := by omega
    rcases e with rfl | rfl | rfl | rfl <;> (rw [hm]; exact C)
  have K0 := Lib.hid (fun W => show Calls Try.prog 63 #[.string s, .int .i64 1, .int .i64 8] W fun e w' => e = .returned (.tuple #[.int .u64 (m.count : Int), .bool (getB s 1 8)]) ∧ W = w' from K 0 W (by omega))
  have K1 := Lib.hid (fun W => show Calls Try.prog 63 #[.string s, .int .i64 9, .int .i64 8] W fun e w' => e = .returned (.tuple #[.int .u64 (m.life : Int), .bool (getB s 9 8)]) ∧ W = w' from K 1 W (by omega))
  have K2 := Lib.hid (fun W => show Calls Try.prog 63 #[.string s, .int .i64 17, .int .i64 8] W fun e w' => e = .returned (.tuple #[.int .u64 (m.check : Int), .bool (getB s 17 8)]) ∧ W = w' from K 2 W (by omega))
  have K3 := Lib.hid (fun W => show Calls Try.prog 63 #[.string s, .int .i64 25, .int .i64 8] W fun e w' => e = .returned (.tuple #[.int .u64 (m.first : Int), .bool (getB s 25 8)]) ∧ W = w' from K 3 W (by omega))
  have KN := Lib.hid (fun W => numbers_any (w.heap.size + 1) W)
  have E4 : m.clean = decide (s.data.toList[33]? = some 1) := by rw [hm]; rfl
  rw [← hm] at T0 ⊢
  have HC := Lib.hid E4
  clear hm K E4
  have I : ∀ (g k : Nat) (W : World), k < 4 → (Instr.index 119 (.agg (fourC g)) (.int .i64 (k : Int))).run Try.prog W = .ok (.pointer (some ⟨g, k, none⟩)) W := fun g k W hk => by
    have e : k = 0 ∨ k = 1 ∨ k = 2 ∨ k = 3 := by omega
    rcases e with rfl | rfl | rfl | rfl <;> rfl
  have I0 := Lib.hid (fun g W => show (Instr.index 119 (.agg (fourC g)) (.int .i64 0)).run Try.prog W = .ok (.pointer (some ⟨g, 0, none⟩)) W from I g 0 W (by omega))
  have I1 := Lib.hid (fun g W => show (Instr.index 119 (.agg (fourC g)) (.int .i64 1)).run Try.prog W = .ok (.pointer (some ⟨g, 1, none⟩)) W from I g 1 W (by omega))
  have I2 := Lib.hid (fun g W => show (Instr.index 119 (.agg (fourC g)) (.int .i64 2)).run Try.prog W = .ok (.pointer (some ⟨g, 2, none⟩)) W from I g 2 W (by omega))
  have I3 := Lib.hid (fun g W => show (Instr.index 119 (.agg (fourC g)) (.int .i64 3)).run Try.prog W = .ok (.pointer (some ⟨g, 3, none⟩)) W from I g 3 W (by omega))
  clear I
  go_enter Try.func42, Try.ntmps42
  go_wp2_with fail
  refine (KN.out _).mono ?_
  rintro e w1 ⟨rfl, b1⟩
  have T1 := Lib.hid (T0.out.later b1)
  clear b1 T0 KN
  obtain ⟨r, hr⟩ : ∃ r, r = w.heap.size := ⟨_, rfl⟩
  obtain ⟨g, hg⟩ : ∃ r, r = w.heap.size + 1 := ⟨_, rfl⟩
  rw [← hg, ← hr] at T1 ⊢
  clear hg
  have HR := Lib.hid hr
  clear hr
  have J0 := Lib.hid (fun W => I0.out g W)
  have J1 := Lib.hid (fun W => I1.out g W)
  have J2 := Lib.hid (fun W => I2.out g W)
  have J3 := Lib.hid (fun W => I3.out g W)
  clear I0 I1 I2 I3
  generalize fourC g = F at *
  go_wp2_with fail
  go_loopw [4, 8] (fun a i wr => ∃ (k : Nat) (x y : Int), k ≤ 4 ∧ x = (k : Int) ∧ y = 1 + 8 * (k : Int) ∧ i = .int .i64 x ∧ a = .int .i64 y ∧ Tb w wr r g Ms.zero (upTo k m)) (fun _ i _ => 4 - (intOf i).toNat)
  case atStart => exact ⟨0, 0, 1, by omega, rfl, rfl, rfl, rfl, T1.out⟩
  case round =>
    obtain ⟨k, x, y, hk, hx, hy, rfl, rfl, ht⟩ := hrel
    have T2 := Lib.hid ht
    clear ht T1
    have e : k = 0 ∨ k = 1 ∨ k = 2 ∨ k = 3 ∨ k = 4 := by omega
    rcases e with rfl | rfl | rfl | rfl | rfl
    · obtain rfl : x = 0 := by omega
      obtain rfl : y = 1 := by omega
      clear hx hy hk
      have f0 := T2.out.b.free 0
      have a0 := T2.out.b.five.1
      have i0 := J0.out
      go_wp2_with fail
      refine (K0.out _).mono ?_
      rintro e w2 ⟨rfl, rfl⟩
      have T3 := Lib.hid (T2.out.set 0 (.int .u64 (m.count : Int)) (q' := upTo 1 m) (by simp [upTo, msC]))
      clear T2
      go_wp2_with fail
      go_roundw
      case rel => exact ⟨1, 1, 9, by omega, rfl, rfl, rfl, rfl, T3.out⟩
      case measure => simp [intOf]
    · obtain rfl : x = 1 := by omega
      obtain rfl : y = 9 := by omega
      clear hx hy hk
      have f0 := T2.out.b.free 1
      have a0 := T2.out.b.five.2.1
      have i0 := J1.out
      go_wp2_with fail
      refine (K1.out _).mono ?_
      rintro e w2 ⟨rfl, rfl⟩
      have T3 := Lib.hid (T2.out.set 1 (.int .u64 (m.life : Int)) (q' := upTo 2 m) (by simp [upTo, msC]))
      clear T2
      go_wp2_with fail
      go_roundw
      case rel => exact ⟨2, 2, 17, by omega, rfl, rfl, rfl, rfl, T3.out⟩
      case measure => simp [intOf]
    · obtain rfl : x = 2 := by omega
      obtain rfl : y = 17 := by omega
      clear hx hy hk
      have f0 := T2.out.b.free 2
      have a0 := T2.out.b.five.2.2.1
      have i0 := J2.out
      go_wp2_with fail
      refine (K2.out _).mono ?_
      rintro e w2 ⟨rfl, rfl⟩
      have T3 := Lib.hid (T2.out.set 2 (.int .u64 (m.check : Int)) (q' := upTo 3 m) (by simp [upTo, msC]))
      clear T2
      go_wp2_with fail
      go_roundw
      case rel => exact ⟨3, 3, 25, by omega, rfl, rfl, rfl, rfl, T3.out⟩
      case measure => simp [intOf]
    · obtain rfl : x = 3 := by omega
      obtain rfl : y = 25 := by omega
      clear hx hy hk
      have f0 := T2.out.b.free 3
      have a0 := T2.out.b.five.2.2.2.1
      have i0 := J3.out
      go_wp2_with fail
      refine (K3.out _).mono ?_
      rintro e w2 ⟨rfl, rfl⟩
      have T3 := Lib.hid (T2.out.set 3 (.int .u64 (m.first : Int)) (q' := upTo 4 m) (by simp [upTo, msC]))
      clear T2
      go_wp2_with fail
      go_roundw
      case rel => exact ⟨4, 4, 33, by omega, rfl, rfl, rfl, rfl, T3.out⟩
      case measure => simp [intOf]
    · obtain rfl : x = 4 := by omega
      obtain rfl : y = 33 := by omega
      clear hx hy hk K0 K1 K2 K3 J0 J1 J2 J3
      obtain ⟨c, hc⟩ : ∃ c, c = m.clean := ⟨_, rfl⟩
      have T3 := Lib.hid (T2.out.set 4 (.bool c) (q' := m) (by rw [hc]; simp [upTo, msC]))
      have hc2 := hc.trans HC.out
      have HD := Lib.hid HC.out
      clear hc HC
      obtain ⟨a0, a1, a2, a3, a4⟩ := T3.out.b.five
      have fr := T2.out.b.free 4
      have HB := Lib.hid T3.out.a.box
      have HL := Lib.hid T3.out.a.below
      have HO := Lib.hid T3.out.a.own
      have f4 := T2.out.b.five.2.2.2.2
      by_cases h : 33 < s.size
      · have e1 : ((((s[33]'h).toNat : Int)) == 1) = c := by
          rw [hc2]
          have : s.data.toList[33]? = some (s[33]'h) := by rw [List.getElem?_eq_getElem (by simpa using h)]; rfl
          rw [this, Bool.eq_iff_iff]
          simp only [beq_iff_eq, decide_eq_true_eq, Option.some.injEq]
          constructor
          · intro e; exact UInt8.toNat_inj.1 (by simpa using (by omega : (s[33]'h).toNat = 1))
          · intro e; rw [e]; rfl
        have hn : c = m.clean := by rw [hc2, HD.out]
        clear hc2 T2 HD
        subst hn
        go_wp2_with (refine wpList_store_row rfl 40 _ _ rfl r (msC m) rfl rfl 40 (msC Ms.zero) HB.out info_ms rfl (ms_one _) ?_)
        exact bodyPost_ret (v := msV m) (results_one Try.results42 _ _ r (msC m) rfl (setRow_heap _ _ _ _ _ _ HB.out) Try.underlying40 info_ms) rfl ⟨rfl, below_setRow HL.out HO.out _⟩
      · have e1 : c = false := by
          rw [hc2, decide_eq_false_iff_not, List.getElem?_eq_none (by simp; omega)]
          simp
        have hn : c = m.clean := by rw [hc2, HD.out]
        clear hc2 T2 HD
        have e2 : decide ((33 : Int) < (s.size : Int)) = false := decide_eq_false (by omega)
        have e3 : (33 < s.size) = False := eq_false h
        have hm5 : m = ⟨m.count, m.life, m.check, m.first, false⟩ := by rw [← e1, hn]
        subst e1
        clear h hn
        generalize m.count = x0 at *
        generalize m.life = x1 at *
        generalize m.check = x2 at *
        generalize m.first = x3 at *
        subst hm5
        go_wp2_with (refine wpList_store_row rfl 40 _ _ rfl r (msC ⟨x0, x1, x2, x3, false⟩) rfl rfl 40 (msC Ms.zero) HB.out info_ms rfl (ms_one _) ?_)
        exact bodyPost_ret (v := msV ⟨x0, x1, x2, x3, false⟩) (results_one Try.results42 _ _ r (msC ⟨x0, x1, x2, x3, false⟩) rfl (setRow_heap _ _ _ _ _ _ HB.out) Try.underlying40 info_ms) rfl ⟨rfl, below_setRow HL.out HO.out _⟩

end Go.Proofs.Ytfcibccipkokoaa.Mas
