/-
  Walks: Force.
-/
import Derived.Test.YtgohpompgiljiaaZ8
namespace Go.Proofs.Ytgohpompgiljiaa.Log
open Go.RowKit
open Go.Proofs.Ytgohpompgiljiaa.Sl (Sl Step re)
open Go.Proofs.Ytgohpompgiljiaa.Seq (byteS recS all all_byte)
open Go.Proofs.Ytgohpompgiljiaa.Disk (D Rep grew now)
attribute [local go_sem] Oper.semAt_some

/-- the cells that Force makes for itself -/
def boxB (w : World) (q : Nat) : World := (w.alloc (.cells #[.pointer (some ⟨q, 0, none⟩)] 29)).alloc (.cells #[.int .i64 0] 39)
theorem heap_drew (w : World) : w.drew.heap = w.heap := rfl
theorem FI.start {i q pd a : Nat} {T : Nat → Nat} {w : World} {g : G} {d : D} {r : R} {rv tv : Value} (hL : Lr i T w q r rv tv) (hd : Dk T w pd d) :
    FI w T q pd a g d tv 0 ((((boxB w q).alloc (.cells #[.int .u64 ((g.forced / 110 : Nat) : Int)] 27)).alloc (.cells #[tv] 55)).alloc (.cells #[.int .i64 110] 3)).drew := by
  have hb : Below w.heap.size w ((((boxB w q).alloc (.cells #[.int .u64 ((g.forced / 110 : Nat) : Int)] 27)).alloc (.cells #[tv] 55)).alloc (.cells #[.int .i64 110] 3)).drew :=
    (((((((Below.refl _ w).alloc (Nat.le_refl _) _).alloc (by simp) _).alloc (by simp; omega) _).alloc (by simp; omega) _).alloc (by simp; omega) _)).drew
  refine ⟨⟨_, hd.later hb, fun b _ => Iff.rfl, fun b h => .inl (Rep.below hd b h)⟩, Disk.Touch.ofNew hb, ?_, ?_, ?_, ?_, ?_⟩ <;> (rw [heap_drew]; unfold boxB; simp only [heap_alloc_if, World.size_alloc]; (repeat (first | rw [if_pos (by omega)] | rw [if_neg (by omega)])); exact if_pos trivial)
theorem leave_f {W : World} {B : Nat} {x : Int} {tmps : Array Value} (h4 : tmps.getD 4 undef = .pointer (some ⟨B, 0, none⟩)) (hc : W.cell? ⟨B, 0, none⟩ = some (.int .i64 x)) : (Go.results Try.f11 tmps).run Try.prog W = .ok (.int .i64 x) W := by
  simp only [Array.getD_eq_getD_getElem?] at h4
  simp [Go.results, Try.f11, go_sem, h4, hc]
set_option maxRecDepth 100000 in
set_option maxHeartbeats 4000000 in
theorem force_any {i q pd a : Nat} {T : Nat → Nat} {w : World} {g : G} {d : D} (h : Lg i T w q pd a g) (hi : 2 ≤ i) (hd : Dk T w pd d) (hf : d.fuse = -1) (ha : a + g.n ≤ d.sure.length) (hlo : d.loose.length ≤ 100000000) (hnx : g.next ≤ 1000000000000) (b : Nat) (hb : b < 18446744073709551616) :
    Calls Try.prog 11 #[.pointer (some ⟨q, 0, none⟩), .int .u64 (b : Int)] w (FcP i q pd a T g b d w) := by
  obtain ⟨rv, tv, hL⟩ := h.ex
  have KM := Lib.hid (fun W (b : Below w.heap.size w W) => made_any (hL.later b) h.ok.life1)
  have hip := hL.ipos
  have LL := Lib.hid hL
  have HOK := Lib.hid h.ok
  have HAT := Lib.hid h.hat
  have lt := Lib.hid hL.lt
  have LG := Lib.hid h
  have HD := Lib.hid hd
  have PO := Lib.hid (show ∀ (x : Nat) (T' : Nat → Nat) (W : World) (d' : D), fcE g b = x → Lg i T' W q pd a (fcG g b) → fcD d a g b = d' → Dk T' W pd d' → Step (IO i) T T' w W → FcP i q pd a T g b d w (.returned (.int .i64 (x : Int))) W from fun x T' W d' h1 h2 h3 h4 h5 => ⟨by rw [h1], T', h2, by rw [h3]; exact h4, h5⟩)
  have BB := Lib.hid (show Below w.heap.size w (boxB w q) from ((Below.refl _ w).alloc (Nat.le_refl _) _).alloc (by simp) _)
  have b0 : (boxB w q).cell? ⟨w.heap.size, 0, none⟩ = some (.pointer (some ⟨q, 0, none⟩)) := by
    unfold boxB
    rw [World.cell?_alloc_lt _ _ _ (by simp)]
    exact cell_of_row _ _ 0 _ _ _ (heap_alloc_new w _)
  have hbs : (boxB w q).heap.size = w.heap.size + 2 := by unfold boxB; simp
  have b1 : (boxB w q).heap[w.heap.size + 1]? = some (.cells #[.int .i64 0] 39) := by
    have := heap_alloc_new (w.alloc (.cells #[.pointer (some ⟨q, 0, none⟩)] 29)) (.cells #[.int .i64 0] 39)
    rw [World.size_alloc] at this
    exact this
  have L1 := Lib.hid (hL.later BB.out)
  have b1c : (boxB w q).cell? ⟨w.heap.size + 1, 0, none⟩ = some (.int .i64 0) := cell_of_row _ _ 0 _ _ _ b1
  have b1f : (boxB w q).frozen? ⟨w.heap.size + 1, 0, none⟩ = false := frozen_of_row _ _ _ _ _ b1
  obtain ⟨_, _, _, _, _, c5, c6, _⟩ := L1.out.cells
  change (boxB w q).cell? ⟨q, 5, none⟩ = some (.int .u64 (g.next : Int)) at c5
  change (boxB w q).cell? ⟨q, 6, none⟩ = some (.int .u64 (g.forced : Int)) at c6
  have KM1 := Lib.hid (KM.out _ BB.out)
  have SB := Lib.hid (fun x : Int => BB.out.setCell (p := ⟨w.heap.size + 1, 0, none⟩) (by show w.heap.size ≤ w.heap.size + 1; omega) (.int .i64 x))
  have hfn := h.ok.fl
  refine (callsIn_wide (n := 6)).1 ?_
  refine callsIn_of_wp_marks Try.func11 rfl trivial ?_ rfl
  simp only [Try.ntmps11, List.size_toArray, List.length_cons, List.length_nil, Nat.reduceAdd, Nat.reduceSub, Array.replicate_succ, Array.replicate_zero, List.push_toArray, List.append_toArray, List.nil_append, List.cons_append]
  refine wpIn_wide.2 ?_
  clear h hL hd KM
  have hW : boxB w q = (w.alloc (.cells #[.pointer (some ⟨q, 0, none⟩)] 29)).alloc (.cells #[.int .i64 0] 39) := rfl
  by_cases hA : g.next < b
  · have EE := Lib.hid (show fcE g b = 2 from by unfold fcE; rw [if_pos hA])
    have EB : fcB g b = false := by unfold fcB; exact decide_eq_false (by omega)
    have EG := Lib.hid (show fcG g b = g from by unfold fcG; rw [EB]; rfl)
    have ED := Lib.hid (show fcD d a g b = d from by unfold fcD; rw [EB]; rfl)
    have x1 : decide ((g.next : Int) < (b : Int)) = true := decide_eq_true (by omega)
    have x1' : decide (g.next < b) = true := decide_eq_true (by omega)
    clear EB hA
    go_wp2_with fail
    rw [← hW]
    clear hW
    refine KM1.out.mono ?_
    rintro e w1 ⟨rfl, rfl⟩
    have P := Lib.hid (PO.out 2 T ((boxB w q).setCell ⟨w.heap.size + 1, 0, none⟩ (.int .i64 2)) d EE.out (by rw [EG.out]; exact LG.out.later (SB.out _)) ED.out (HD.out.later (SB.out _)) (Step.below _ lt.out (SB.out _)))
    have C := Lib.hid (World.cell?_setCell_same _ _ (.int .i64 2) b1c)
    go_wp2_with fail
    exact ⟨_, leave_f rfl C.out, P.out⟩
  by_cases hB : b < g.forced ∨ g.forced = g.next
  · have EE := Lib.hid (show fcE g b = 0 from by unfold fcE; rw [if_neg hA])
    have EB : fcB g b = false := by unfold fcB; exact decide_eq_false (by omega)
    have EG := Lib.hid (show fcG g b = g from by unfold fcG; rw [EB]; rfl)
    have ED := Lib.hid (show fcD d a g b = d from by unfold fcD; rw [EB]; rfl)
    have x1 : decide ((g.next : Int) < (b : Int)) = false := decide_eq_false (by omega)
    have x1' : decide (g.next < b) = false := decide_eq_false (by omega)
    have key : ∃ t, (decide ((b : Int) < (g.forced : Int)) = t ∧ decide (b < g.forced) = t) ∧ (t = true ∨ (t = false ∧ g.forced = g.next)) := by
      by_cases h1 : b < g.forced
      · exact ⟨true, ⟨decide_eq_true (by omega), decide_eq_true h1⟩, .inl rfl⟩
      · exact ⟨false, ⟨decide_eq_false (by omega), decide_eq_false h1⟩, .inr ⟨rfl, by omega⟩⟩
    obtain ⟨t, ⟨y1, y2⟩, ht⟩ := key
    have BD := BB.out.drew
    have SB2 := BD.setCell (p := ⟨w.heap.size + 1, 0, none⟩) (by show w.heap.size ≤ w.heap.size + 1; omega) (.int .i64 0)
    have P := Lib.hid (PO.out 0 T ((boxB w q).drew.setCell ⟨w.heap.size + 1, 0, none⟩ (.int .i64 0)) d EE.out (by rw [EG.out]; exact LG.out.later SB2) ED.out (HD.out.later SB2) (Step.below _ lt.out SB2))
    have C := Lib.hid (show ((boxB w q).drew.setCell ⟨w.heap.size + 1, 0, none⟩ (.int .i64 0)).cell? ⟨w.heap.size + 1, 0, none⟩ = some (.int .i64 0) from World.cell?_setCell_same (boxB w q).drew _ (.int .i64 0) b1c)
    clear EB hA hB BD SB2
    rcases ht with rfl | ⟨rfl, hfe⟩
    · go_wp2_with fail
      rw [← hW]
      clear hW
      refine KM1.out.mono ?_
      rintro e w1 ⟨rfl, rfl⟩
      go_upto_region 6 with fail
      (try go_region)
      go_wp2_with fail
      exact ⟨_, leave_f rfl C.out, P.out⟩
    · rw [← hfe] at c5 x1 x1'
      clear hfe
      go_wp2_with fail
      rw [← hW]
      clear hW
      refine KM1.out.mono ?_
      rintro e w1 ⟨rfl, rfl⟩
      go_upto_region 6 with fail
      (try go_region)
      go_wp2_with fail
      exact ⟨_, leave_f rfl C.out, P.out⟩
  have x1 : decide ((g.next : Int) < (b : Int)) = false := decide_eq_false (by omega)
  have x1' : decide (g.next < b) = false := decide_eq_false (by omega)
  have y1 : decide ((b : Int) < (g.forced : Int)) = false := decide_eq_false (by omega)
  have y1' : decide (b < g.forced) = false := decide_eq_false (by omega)
  have z1 : ((g.forced : Int) == (g.next : Int)) = false := by rw [beq_eq_false_iff_ne]; omega
  have z1' : (g.forced == g.next) = false := by rw [beq_eq_false_iff_ne]; omega
  have z2 : ¬ g.forced = g.next := by omega
  have EE := Lib.hid (show fcE g b = 0 from by unfold fcE; rw [if_neg hA])
  have EB : fcB g b = true := by unfold fcB; exact decide_eq_true ⟨by omega, by omega, by omega⟩
  have EG := Lib.hid (show fcG g b = { g with forced := g.next } from by unfold fcG; rw [EB]; rfl)
  have ED := Lib.hid (show fcD d a g b = (fcw d a g.n (g.forced / 110) g.life g.tail (nch g.tail)).sync from by unfold fcD; rw [EB]; rfl)
  have KS := Lib.hid (fun W => stretch_any g.forced W (by omega))
  have c8 : (boxB w q).cell? ⟨q, 8, none⟩ = some tv := L1.out.cells.2.2.2.2.2.2.2.2.1
  obtain ⟨ta, tn, tc, htv⟩ := L1.out.tail.shape3
  have KC := Lib.hid (fun W => chunk_new tv ta tn tc htv W)
  subst htv
  obtain ⟨k0, hk0⟩ : ∃ k0, k0 = g.forced / 110 := ⟨_, rfl⟩
  rw [← hk0] at KS
  have HK0 := Lib.hid hk0
  have hqlt := LL.out.qlt
  have e8 : ((boxB w q).alloc (.cells #[.int .u64 (k0 : Int)] 27)).cell? ⟨q, 8, none⟩ = some (.slice ta tn tc) := (World.cell?_alloc_lt _ _ _ (by rw [hbs]; show q < _; omega)).trans c8
  clear EB hA hB hk0 hqlt
  go_wp2_with fail
  rw [← hW]
  clear hW
  refine KM1.out.mono ?_
  rintro e w1 ⟨rfl, rfl⟩
  go_upto_region 6 with fail
  (try go_region)
  go_wp2_with fail
  refine (KS.out _).mono ?_
  rintro e w1 ⟨rfl, rfl⟩
  go_wp2_with fail
  refine (KC.out _).mono ?_
  rintro e w1 ⟨rfl, rfl⟩
  go_wp2_with fail
  obtain ⟨W5, hW5⟩ : ∃ W5, W5 = ((((boxB w q).alloc (.cells #[.int .u64 (k0 : Int)] 27)).alloc (.cells #[.slice ta tn tc] 55)).alloc (.cells #[.int .i64 110] 3)).drew := ⟨_, rfl⟩
  have F0 := Lib.hid (show FI w T q pd a g d (.slice ta tn tc) 0 W5 from by rw [hW5, HK0.out]; exact FI.start LL.out HD.out)
  have z5 : W5.heap.size = w.heap.size + 5 := by rw [hW5]; simp [hbs]
  rw [← hW5]
  have htl : g.tail.length ≤ 1000000 := by
    have h2 := HOK.out.tail_len
    have h3 := HOK.out.used
    have h4 := HOK.out.n12
    have h5 := beg_mono hfn.1
    have h6 : g.n * 110 ≤ 4096 * 110 := Nat.mul_le_mul_right _ h4
    omega
  have HTL := Lib.hid htl
  clear hW5 b0 b1 b1c b1f c5 c6 c8 e8 KM1 KS KC SB L1 BB hbs htl x1 x1' y1 y1' z1 z1' z2
  refine (wpIn_wide (n := 6)).1 ?_
  refine range_whole rfl (by decide) (gf := 54) (lb := #[.pointer (some ⟨w.heap.size + 3, 0, none⟩), .pointer (some ⟨w.heap.size + 4, 0, none⟩)]) rfl trivial (enters_of Try.func54 (by kernel_rfl) rfl)
    (fun k x => k < nch g.tail ∧ ∀ (G : Nat → Prop) (W' : World), Sl byteS G W' (.slice ta tn tc) g.tail → Sl byteS G W' x (ch g.tail k)) (nch g.tail) rfl (FI w T q pd a g d (.slice ta tn tc)) (fun k W W' h t => h.but (by rw [z5] at t; exact t)) F0.out ?iter ?round ?done
  case iter =>
    intro l J W hJ hJI hY h0
    exact chunk1_in 5 (by decide) l (w.heap.size + 3) (w.heap.size + 4) (.slice ta tn tc) g.tail HTL.out J hJ (fun k W hk => by
      have hI := hJI k W hk
      obtain ⟨T1, L1, _⟩ := hI.view LL.out hi
      exact ⟨cell_of_row _ _ 0 _ _ _ hI.r3, cell_of_row _ _ 0 _ _ _ hI.r4, _, L1.tail⟩) (fun k x W1 hk hx => hY k x W1 hk hx) W h0
  case round =>
    intro l k x W hX
    gi_wp2_with fail
    refine ⟨trivial, fun W2 hz2 hI => ?_⟩
    rw [z5] at hz2 ⊢
    obtain ⟨T1, L1, D1, S1, O1⟩ := hI.view LL.out hi
    obtain ⟨xa, xn, xc, hxx⟩ := (hX.2 _ _ L1.tail).shape3
    have FF := Lib.hid (fcw_facts d a g.n (g.forced / 110) g.life g.tail hf k)
    have hkn := hX.1
    have hnt : nch g.tail = (g.tail.length + 109) / 110 := rfl
    have htl := HTL.out
    have hfo : g.forced ≤ 1000000000000 := by omega
    obtain ⟨kk, hkk⟩ : ∃ kk, kk = g.forced / 110 + k := ⟨_, rfl⟩
    have HKK := Lib.hid hkk
    have r2 : W2.heap[w.heap.size + 2]? = some (.cells #[.int .u64 (kk : Int)] 27) := by rw [hkk]; exact hI.r2
    have RR2 := Lib.hid r2
    have KW := Lib.hid (wr_any (w := W2.drew) (D1.later (Below.refl _ _).drew) (by rw [FF.out.1]; decide) a g.n kk g.life HOK.out.n4 HOK.out.n12 (by rw [FF.out.2.2]; exact ha) (by omega) HOK.out.life9 (by rw [FF.out.2.1]; omega) ((hX.2 _ _ L1.tail).later (Below.refl _ _).drew) (ch_le g.tail k))
    have HX := Lib.hid hX
    subst hxx
    have HI := Lib.hid hI
    have OO := Lib.hid O1
    have S11 := Lib.hid S1
    have LL1 := Lib.hid L1
    have SC := Lib.hid (show ∀ W : World, Below W2.heap.size W2 W → W.cell? ⟨w.heap.size, 0, none⟩ = some (.pointer (some ⟨q, 0, none⟩)) ∧ W.cell? ⟨w.heap.size + 2, 0, none⟩ = some (.int .u64 (kk : Int)) ∧ W.cell? ⟨q, 0, none⟩ = some (.pointer (some ⟨pd, 0, none⟩)) ∧ W.cell? ⟨q, 1, none⟩ = some (.int .i64 (a : Int)) ∧ W.cell? ⟨q, 2, none⟩ = some (.int .i64 (g.n : Int)) ∧ W.cell? ⟨q, 3, none⟩ = some (.int .u64 (g.life : Int)) from fun W b => by
      obtain ⟨a0, a1, a2, a3, _⟩ := (LL1.out.later b).cells
      exact ⟨cell_of_row _ _ 0 _ _ _ ((b.block _ (by omega)).trans HI.out.r0), cell_of_row _ _ 0 _ _ _ ((b.block _ (by omega)).trans RR2.out), a0, a1, a2, a3⟩)
    have SC2 := Lib.hid (show ∀ W : World, Disk.Touch (fun b => T1 b = 1) W2.drew W → W.cell? ⟨w.heap.size, 0, none⟩ = some (.pointer (some ⟨q, 0, none⟩)) ∧ W.cell? ⟨w.heap.size + 2, 0, none⟩ = some (.int .u64 (kk : Int)) ∧ W.cell? ⟨q, 0, none⟩ = some (.pointer (some ⟨pd, 0, none⟩)) ∧ W.cell? ⟨q, 1, none⟩ = some (.int .i64 (a : Int)) ∧ W.cell? ⟨q, 2, none⟩ = some (.int .i64 (g.n : Int)) ∧ W.cell? ⟨q, 3, none⟩ = some (.int .u64 (g.life : Int)) from fun W t => by
      have hq := LL1.out.qlt
      have e : W.heap[q]? = W2.heap[q]? := t.block _ hq (by show ¬ T1 q = 1; rw [LL1.out.tq]; omega)
      obtain ⟨a0, a1, a2, a3, _⟩ := LL1.out.cells
      refine ⟨cell_of_row _ _ 0 _ _ _ ((t.block _ (by show w.heap.size < W2.heap.size; omega) (by show ¬ T1 _ = 1; rw [OO.out _ (Nat.le_refl _) (by omega)]; decide)).trans HI.out.r0), cell_of_row _ _ 0 _ _ _ ((t.block _ (by show w.heap.size + 2 < W2.heap.size; omega) (by show ¬ T1 _ = 1; rw [OO.out _ (by omega) (by omega)]; decide)).trans RR2.out), ?_, ?_, ?_, ?_⟩
      · exact (World.cell?_of_block (a := ⟨q, 0, none⟩) e).trans a0
      · exact (World.cell?_of_block (a := ⟨q, 1, none⟩) e).trans a1
      · exact (World.cell?_of_block (a := ⟨q, 2, none⟩) e).trans a2
      · exact (World.cell?_of_block (a := ⟨q, 3, none⟩) e).trans a3)
    clear hI L1 D1 S1 O1 hX hkk r2
    unfold ringV ringC WrP at KW
    gi_wp2_with fail
    trace_state
    refine regionIn_held (S := fun W => W.cell? ⟨w.heap.size, 0, none⟩ = some (.pointer (some ⟨q, 0, none⟩)) ∧ W.cell? ⟨w.heap.size + 2, 0, none⟩ = some (.int .u64 (kk : Int)) ∧ W.cell? ⟨q, 0, none⟩ = some (.pointer (some ⟨pd, 0, none⟩)) ∧ W.cell? ⟨q, 1, none⟩ = some (.int .i64 (a : Int)) ∧ W.cell? ⟨q, 2, none⟩ = some (.int .i64 (g.n : Int)) ∧ W.cell? ⟨q, 3, none⟩ = some (.int .u64 (g.life : Int))) (by rintro ⟨_, _, h, _⟩; cases h) (by kernel_rfl) (by kernel_rfl) (SC.out _ (Below.refl _ _).drew) (fun hHeld => ?_)
    refine wpAnyH_take (i := 0) (v := ?_) rfl (by kernel_rfl) (by kernel_rfl) (by kernel_rfl) (fun _ _ _ h => h) (Or.inl ⟨by rfl, ?_⟩) hHeld ?_
    rotate_left
    · (intro w hSw; obtain ⟨y0, y1, y2, y3, y4, y5⟩ := hSw; go_simp; (try with_reducible rfl))
    simp only [List.getElem_toArray, List.getElem_cons_succ, List.getElem_cons_zero, Act.put, List.setIfInBounds_toArray, List.set_cons_zero, List.set_cons_succ]
    refine wpAnyH_take (i := 1) (v := ?_) rfl (by kernel_rfl) (by kernel_rfl) (by kernel_rfl) (fun _ _ _ h => h) (Or.inl ⟨by rfl, ?_⟩) hHeld ?_
    rotate_left
    · (intro w hSw; obtain ⟨y0, y1, y2, y3, y4, y5⟩ := hSw; go_simp; (try with_reducible rfl))
    simp only [List.getElem_toArray, List.getElem_cons_succ, List.getElem_cons_zero, Act.put, List.setIfInBounds_toArray, List.set_cons_zero, List.set_cons_succ]
    refine wpAnyH_take (i := 2) (v := ?_) rfl (by kernel_rfl) (by kernel_rfl) (by kernel_rfl) (fun _ _ _ h => h) (Or.inl ⟨by rfl, ?_⟩) hHeld ?_
    rotate_left
    · (intro w hSw; obtain ⟨y0, y1, y2, y3, y4, y5⟩ := hSw; go_simp; (try with_reducible rfl))
    simp only [List.getElem_toArray, List.getElem_cons_succ, List.getElem_cons_zero, Act.put, List.setIfInBounds_toArray, List.set_cons_zero, List.set_cons_succ]
    refine wpAnyH_take (i := 3) (v := ?_) rfl (by kernel_rfl) (by kernel_rfl) (by kernel_rfl) (fun _ _ _ h => h) (Or.inl ⟨by rfl, ?_⟩) hHeld ?_
    rotate_left
    · (intro w hSw; obtain ⟨y0, y1, y2, y3, y4, y5⟩ := hSw; go_simp; (try with_reducible rfl))
    simp only [List.getElem_toArray, List.getElem_cons_succ, List.getElem_cons_zero, Act.put, List.setIfInBounds_toArray, List.set_cons_zero, List.set_cons_succ]
    refine wpAnyH_take (i := 4) (v := ?_) rfl (by kernel_rfl) (by kernel_rfl) (by kernel_rfl) (fun _ _ _ h => h) (Or.inl ⟨by rfl, ?_⟩) hHeld ?_
    rotate_left
    · (intro w hSw; obtain ⟨y0, y1, y2, y3, y4, y5⟩ := hSw; go_simp; (try with_reducible rfl))
    simp only [List.getElem_toArray, List.getElem_cons_succ, List.getElem_cons_zero, Act.put, List.setIfInBounds_toArray, List.set_cons_zero, List.set_cons_succ]
    refine wpAnyH_take (i := 5) (v := ?_) rfl (by kernel_rfl) (by kernel_rfl) (by kernel_rfl) (fun _ _ _ h => h) (Or.inl ⟨by rfl, ?_⟩) hHeld ?_
    rotate_left
    · (intro w hSw; obtain ⟨y0, y1, y2, y3, y4, y5⟩ := hSw; go_simp; (try with_reducible rfl))
    simp only [List.getElem_toArray, List.getElem_cons_succ, List.getElem_cons_zero, Act.put, List.setIfInBounds_toArray, List.set_cons_zero, List.set_cons_succ]
    refine wpAnyH_take (i := 6) (v := ?_) rfl (by kernel_rfl) (by kernel_rfl) (by kernel_rfl) (fun _ _ _ h => h) (Or.inl ⟨by rfl, ?_⟩) hHeld ?_
    rotate_left
    · (intro w hSw; obtain ⟨y0, y1, y2, y3, y4, y5⟩ := hSw; go_simp; (try with_reducible rfl))
    simp only [List.getElem_toArray, List.getElem_cons_succ, List.getElem_cons_zero, Act.put, List.setIfInBounds_toArray, List.set_cons_zero, List.set_cons_succ]
    refine wpAnyH_take (i := 7) (v := ?_) rfl (by kernel_rfl) (by kernel_rfl) (by kernel_rfl) (fun _ _ _ h => h) (Or.inl ⟨by rfl, ?_⟩) hHeld ?_
    rotate_left
    · (intro w hSw; obtain ⟨y0, y1, y2, y3, y4, y5⟩ := hSw; go_simp; (try with_reducible rfl))
    simp only [List.getElem_toArray, List.getElem_cons_succ, List.getElem_cons_zero, Act.put, List.setIfInBounds_toArray, List.set_cons_zero, List.set_cons_succ]
    refine wpAnyH_take (i := 8) (v := ?_) rfl (by kernel_rfl) (by kernel_rfl) (by kernel_rfl) (fun _ _ _ h => h) (Or.inl ⟨by rfl, ?_⟩) hHeld ?_
    rotate_left
    · (intro w hSw; obtain ⟨y0, y1, y2, y3, y4, y5⟩ := hSw; go_simp; (try with_reducible rfl))
    simp only [List.getElem_toArray, List.getElem_cons_succ, List.getElem_cons_zero, Act.put, List.setIfInBounds_toArray, List.set_cons_zero, List.set_cons_succ]
    refine wpAnyH_take (i := 9) (v := ?_) rfl (by kernel_rfl) (by kernel_rfl) (by kernel_rfl) (fun _ _ _ h => h) (Or.inl ⟨by rfl, ?_⟩) hHeld ?_
    rotate_left
    · (intro w hSw; obtain ⟨y0, y1, y2, y3, y4, y5⟩ := hSw; go_simp; (try with_reducible rfl))
    simp only [List.getElem_toArray, List.getElem_cons_succ, List.getElem_cons_zero, Act.put, List.setIfInBounds_toArray, List.set_cons_zero, List.set_cons_succ]
    refine wpAnyH_ready (rs := [10]) (by kernel_rfl) (by simp) (AllReadyH.cons rfl (fun K hK => ?_) AllReadyH.nil)
    refine step_fn rfl (.func 33) [.tmp 53, .tmp 54, .tmp 58, .tmp 59] _ rfl 33 [] (by simp [Act.eval]) _ Try.func33 (by kernel_rfl) (by kernel_rfl) KW.out (by rfl) ?_
    rintro e w6 ⟨rfl, r6, t6⟩
    refine ⟨_, rfl, ?_⟩
    have R6 := Lib.hid r6
    have T6 := Lib.hid t6
    clear r6 t6 KW
    refine hK.out _ _ (SC2.out _ T6.out) (fun hHeld => ?_)
    clear hK K
    simp only [List.getElem_toArray, List.getElem_cons_succ, List.getElem_cons_zero, Act.put, List.setIfInBounds_toArray, List.set_cons_zero, List.set_cons_succ]
    refine wpAnyH_take (i := 11) (v := ?_) rfl (by kernel_rfl) (by kernel_rfl) (by kernel_rfl) (fun _ _ _ h => h) (Or.inl ⟨by rfl, ?_⟩) hHeld ?_
    rotate_left
    · (intro w hSw; obtain ⟨y0, y1, y2, y3, y4, y5⟩ := hSw; go_simp; (try with_reducible rfl))
    simp only [List.getElem_toArray, List.getElem_cons_succ, List.getElem_cons_zero, Act.put, List.setIfInBounds_toArray, List.set_cons_zero, List.set_cons_succ]
    refine wpAnyH_done (by kernel_rfl) ?_ _
    obtain ⟨_, d2, _⟩ := SC2.out _ T6.out
    have f2 : w6.frozen? ⟨w.heap.size + 2, 0, none⟩ = false := frozen_of_row _ _ _ _ _ ((T6.out.block _ (by show w.heap.size + 2 < W2.heap.size; omega) (by show ¬ T1 _ = 1; rw [OO.out _ (by omega) (by omega)]; decide)).trans RR2.out)
    have T62 := Lib.hid ((Disk.Touch.refl (fun b => T1 b = 1) W2).drew.trans' T6.out)
    have PN := Lib.hid (HI.out.next (W1 := w6) (by omega) OO.out (fun b hb => S11.out.old b hb) (by show Rep w6 pd ((fcw d a g.n (g.forced / 110) g.life g.tail k).write (a + (g.forced / 110 + k) % g.n) (secL (g.forced / 110 + k) g.life (ch g.tail k))) _; rw [← HKK.out]; exact R6.out) T62.out)
    have B1 := Lib.hid (show w6.heap[w.heap.size + 5]? = W2.heap[w.heap.size + 5]? from T62.out.block _ (by omega) (by show ¬ T1 _ = 1; rw [OO.out _ (by omega) (by omega)]; decide))
    have B2 := Lib.hid (show w6.heap[w.heap.size + 5 + 1]? = W2.heap[w.heap.size + 5 + 1]? from T62.out.block _ (by omega) (by show ¬ T1 _ = 1; rw [OO.out _ (by omega) (by omega)]; decide))
    obtain ⟨kk1, hkk1⟩ : ∃ kk1, kk1 = g.forced / 110 + (k + 1) := ⟨_, rfl⟩
    have hw1 : IntKind.u64.wrap ((kk : Int) + 1) = (kk1 : Int) := by have := HKK.out; exact (wrap_u64 (by omega) (by omega)).trans (by omega)
    rw [← hkk1] at PN
    clear hkk1 SC SC2 T6 R6 hHeld hfo htl hnt hkn hz2
    gi_wp2_with fail
    refine ⟨PN.out, ?_, ?_⟩
    · exact (Below.heap_setCell _ _ _ _ (by show w.heap.size + 5 ≠ w.heap.size + 2; omega)).trans B1.out
    · exact (Below.heap_setCell _ _ _ _ (by show w.heap.size + 5 + 1 ≠ w.heap.size + 2; omega)).trans B2.out
  case done =>
    intro W hI hDe
    rw [z5] at hDe ⊢
    obtain ⟨T1, L1, D1, S1, O1⟩ := hI.view LL.out hi
    have FF := Lib.hid (fcw_facts d a g.n (g.forced / 110) g.life g.tail hf (nch g.tail))
    have hnt : nch g.tail = (g.tail.length + 109) / 110 := rfl
    have htl := HTL.out
    obtain ⟨ds, hds⟩ : ∃ ds, ds = fcw d a g.n (g.forced / 110) g.life g.tail (nch g.tail) := ⟨_, rfl⟩
    rw [← hds] at D1 FF ED
    have KY := Lib.hid (Disk.sync_any D1 (by rw [FF.out.1]; decide) (by rw [FF.out.2.1]; omega))
    have HI := Lib.hid hI
    have OO := Lib.hid O1
    have S11 := Lib.hid S1
    have LL1 := Lib.hid L1
    have HDE := Lib.hid hDe
    have b0 : W.cell? ⟨w.heap.size, 0, none⟩ = some (.pointer (some ⟨q, 0, none⟩)) := cell_of_row _ _ 0 _ _ _ hI.r0
    obtain ⟨d0, _⟩ := L1.cells
    change W.cell? ⟨q, 0, none⟩ = some (.pointer (some ⟨pd, 0, none⟩)) at d0
    have hw5 : w.heap.size + 5 < W.heap.size := (Array.getElem?_eq_some_iff.1 hDe).1
    have hzz := hI.big
    clear hI hDe L1 D1 S1 O1 hds hnt
    go_wp2_with fail
    refine KY.out.mono ?_
    rintro e w7 ⟨rfl, r7, t7⟩
    have D7 := Lib.hid (Dk.call0 LL1.out.lt r7 t7)
    have L7 := Lib.hid (LL1.out.step D7.out.2 (by omega) (by omega) (by omega) (by omega))
    have T7 := Lib.hid t7
    have b0 : w7.heap[w.heap.size]? = some (.cells #[.pointer (some ⟨q, 0, none⟩)] 29) := (t7.block _ (by omega) (by show ¬ T1 _ = 1; rw [OO.out _ (Nat.le_refl _) (by omega)]; decide)).trans HI.out.r0
    have b1 : w7.heap[w.heap.size + 1]? = some (.cells #[.int .i64 0] 39) := (t7.block _ (by omega) (by show ¬ T1 _ = 1; rw [OO.out _ (by omega) (by omega)]; decide)).trans HI.out.r1
    have b5 : w7.heap[w.heap.size + 5]? = some (.deferred (some [])) := (t7.block _ hw5 (by show ¬ T1 _ = 1; rw [OO.out _ (by omega) (by omega)]; decide)).trans HDE.out
    have h7 : w.heap.size + 5 < w7.heap.size := Nat.lt_of_lt_of_le hw5 t7.size
    have B0 := Lib.hid b0
    have B1 := Lib.hid b1
    have B5 := Lib.hid b5
    have hqw : q ≠ w.heap.size := fun e => by have h1 := L7.out.tq; rw [e, OO.out _ (Nat.le_refl _) (by omega)] at h1; omega
    have X0 := Lib.hid (show ∀ W', Below w7.heap.size w7 W' → W'.cell? ⟨w.heap.size, 0, none⟩ = some (.pointer (some ⟨q, 0, none⟩)) from fun W' b => cell_of_row _ _ 0 _ _ _ ((b.block _ (by omega)).trans B0.out))
    have X1 := Lib.hid (show ∀ W', Below w7.heap.size w7 W' → ∀ v, (W'.setCell ⟨q, 8, none⟩ v).cell? ⟨w.heap.size, 0, none⟩ = some (.pointer (some ⟨q, 0, none⟩)) from fun W' b v => (World.cell?_of_block (a := ⟨w.heap.size, 0, none⟩) (Below.heap_setCell _ _ _ _ (fun e => hqw e.symm))).trans (X0.out W' b))
    have b0 := X0.out w7 (Below.refl _ _)
    have c5 : w7.cell? ⟨q, 5, none⟩ = some (.int .u64 (g.next : Int)) := L7.out.cells.2.2.2.2.2.1
    have c6 : w7.cell? ⟨q, 6, none⟩ = some (.int .u64 (g.forced : Int)) := L7.out.cells.2.2.2.2.2.2.1
    have e8 : w7.cell? ⟨q, 8, none⟩ = some (.slice ta tn tc) := L7.out.cells.2.2.2.2.2.2.2.2.1
    have hbm := beg_mono hfn.2
    have hbl := beg_le g.next
    have hTLl : g.tail.length = g.next - beg g.forced := HOK.out.tail_len
    obtain ⟨dn, hdn⟩ : ∃ dn, dn = beg g.next - beg g.forced := ⟨_, rfl⟩
    have DN := Lib.hid hdn
    have TG := Lib.hid (show rawG pd a (fcG g b) = { rawG pd a g with tail := g.tail.drop dn, forced := g.next } from by
      rw [EG.out]
      unfold rawG
      rw [fc_tail HOK.out, ← hdn]
      rfl)
    have OKF := Lib.hid (fcG_ok HOK.out b)
    have KS1 := Lib.hid (fun W => stretch_any g.next W (by omega))
    have KS2 := Lib.hid (fun W => stretch_any g.forced W (by omega))
    have KB1 := Lib.hid (fun W => beginning_any (g.next / 110) W (by omega))
    have KB2 := Lib.hid (fun W => beginning_any (g.forced / 110) W (by omega))
    obtain ⟨k1, hk1⟩ : ∃ k1, k1 = g.next / 110 := ⟨_, rfl⟩
    obtain ⟨k2, hk2⟩ : ∃ k2, k2 = g.forced / 110 := ⟨_, rfl⟩
    have eb1 : beg g.next = k1 * 110 := by rw [hk1]; rfl
    have eb2 : beg g.forced = k2 * 110 := by rw [hk2]; rfl
    rw [← hk1] at KS1 KB1
    rw [← hk2] at KS2 KB2
    rw [← eb1] at KB1
    rw [← eb2] at KB2
    have hw1 : IntKind.u64.wrap ((beg g.next : Int) - (beg g.forced : Int)) = (dn : Int) := (wrap_u64 (by omega) (by omega)).trans (by omega)
    generalize beg g.next = g1 at *
    generalize beg g.forced = g2 at *
    obtain ⟨x9, hx9, hs9⟩ := dropU L7.out.tail (k := dn) (by show dn ≤ g.tail.length; omega)
    obtain ⟨x9a, x9n, x9c, rfl⟩ := hs9.shape3
    have KCl := Lib.hid (fun W (b : Below w7.heap.size w7 W) => clone_any (hs9.later b) (by rw [List.length_drop]; show g.tail.length - dn ≤ _; omega))
    clear hk1 hk2 eb1 eb2 hdn KY r7 t7 d0 hs9 b1 b5
    go_upto_region 17 with fail
    go_quiet ((first | (go_at_call 31; exact Calls.quiet_of_same (quiet_one (KS1.out _))) | (go_at_call 31; exact Calls.quiet_of_same (quiet_one (KS2.out _))) | (go_at_call 35; exact Calls.quiet_of_same (quiet_one (KB1.out _))) | (go_at_call 35; exact Calls.quiet_of_same (quiet_one (KB2.out _)))))
    have BQ := Lib.hid (below_drewN w7 nq)
    generalize w7.drewN nq = wq at *
    go_upto_region 18 with fail
    refine wp_region_noPanic ?_
    refine wp_region_held_drew (S := fun W => W.cell? ⟨w.heap.size, 0, none⟩ = some (.pointer (some ⟨q, 0, none⟩))) (by kernel_rfl) (X0.out _ BQ.out.drew) (fun hHeld => ?_)
    refine wpAnyH_take (i := 0) (v := ?_) rfl (by kernel_rfl) (by kernel_rfl) (by kernel_rfl) (fun _ _ _ h => h) (Or.inl ⟨by rfl, ?_⟩) hHeld ?_
    rotate_left
    · (intro w hSw; obtain y0 := hSw; go_simp; (try with_reducible rfl))
    simp only [List.getElem_toArray, List.getElem_cons_succ, List.getElem_cons_zero, Act.put, List.setIfInBounds_toArray, List.set_cons_zero, List.set_cons_succ]
    refine wpAnyH_take (i := 1) (v := ?_) rfl (by kernel_rfl) (by kernel_rfl) (by kernel_rfl) (fun _ _ _ h => h) (Or.inl ⟨by rfl, ?_⟩) hHeld ?_
    rotate_left
    · (intro w hSw; obtain y0 := hSw; go_simp; (try with_reducible rfl))
    simp only [List.getElem_toArray, List.getElem_cons_succ, List.getElem_cons_zero, Act.put, List.setIfInBounds_toArray, List.set_cons_zero, List.set_cons_succ]
    refine wpAnyH_take (i := 2) (v := ?_) rfl (by kernel_rfl) (by kernel_rfl) (by kernel_rfl) (fun _ _ _ h => h) (Or.inl ⟨by rfl, ?_⟩) hHeld ?_
    rotate_left
    · (intro w hSw; obtain y0 := hSw; go_simp; (try with_reducible rfl))
    simp only [List.getElem_toArray, List.getElem_cons_succ, List.getElem_cons_zero, Act.put, List.setIfInBounds_toArray, List.set_cons_zero, List.set_cons_succ]
    refine wpAnyH_take (i := 3) (v := ?_) rfl (by kernel_rfl) (by kernel_rfl) (by kernel_rfl) (fun _ _ _ h => h) (Or.inl ⟨by rfl, ?_⟩) hHeld ?_
    rotate_left
    · (intro w hSw; obtain y0 := hSw; go_simp; (try with_reducible rfl))
    simp only [List.getElem_toArray, List.getElem_cons_succ, List.getElem_cons_zero, Act.put, List.setIfInBounds_toArray, List.set_cons_zero, List.set_cons_succ]
    refine wpAnyH_take (i := 5) (v := ?_) rfl (by kernel_rfl) (by kernel_rfl) (by kernel_rfl) (fun _ _ _ h => h) (Or.inl ⟨by rfl, ?_⟩) hHeld ?_
    rotate_left
    · (intro w hSw; obtain y0 := hSw; go_simp; (try with_reducible rfl))
    simp only [List.getElem_toArray, List.getElem_cons_succ, List.getElem_cons_zero, Act.put, List.setIfInBounds_toArray, List.set_cons_zero, List.set_cons_succ]
    have e8q : wq.drew.cell? ⟨q, 8, none⟩ = some (.slice ta tn tc) := (L7.out.later BQ.out.drew).cells.2.2.2.2.2.2.2.2.1
    refine wpAnyH_ready (rs := [4]) (by kernel_rfl) (by simp) (AllReadyH.cons rfl (fun K hK => ?_) AllReadyH.nil)
    rw [if_pos (by rfl)]
    unfold Oper.wp execOp
    go_simp
    refine hK.out _ _ (X0.out _ BQ.out.drew) (fun hHeld => ?_)
    clear hK K
    refine wpAnyH_take (i := 6) (v := ?_) rfl (by kernel_rfl) (by kernel_rfl) (by kernel_rfl) (fun _ _ _ h => h) (Or.inl ⟨by rfl, ?_⟩) hHeld ?_
    rotate_left
    · (intro w hSw; obtain y0 := hSw; go_simp; (try with_reducible rfl))
    simp only [List.getElem_toArray, List.getElem_cons_succ, List.getElem_cons_zero, Act.put, List.setIfInBounds_toArray, List.set_cons_zero, List.set_cons_succ]
    refine wpAnyH_ready (rs := [7]) (by kernel_rfl) (by simp) (AllReadyH.cons rfl (fun K hK => ?_) AllReadyH.nil)
    refine step_fn rfl (.func 36) [.tmp 94] _ rfl 36 [] (by simp [Act.eval]) _ Try.func36 (by kernel_rfl) (by kernel_rfl) (KCl.out _ BQ.out.drew) (by rfl) ?_
    rintro e w8 ⟨v8, rfl, k8, b8⟩
    refine ⟨_, rfl, ?_⟩
    obtain ⟨a8, n8, c8, rfl⟩ := k8.shape3
    have B8 := Lib.hid (show Below w7.heap.size w7 w8 from BQ.out.drew.trans (b8.mono BQ.out.size))
    have N8 := Lib.hid (L7.out.pushT (w2 := w8) (k8.mono (fun b hb _ => .inr ⟨Nat.le_trans BQ.out.size hb.1, hb.2⟩)) (Disk.Touch.ofNew B8.out) (r' := { rawG pd a g with tail := g.tail.drop dn }) rfl rfl rfl)
    have L8 := Lib.hid (L7.out.later B8.out)
    clear b8 k8
    refine hK.out _ _ (X0.out w8 B8.out) (fun hHeld => ?_)
    clear hK K
    simp only [List.getElem_toArray, List.getElem_cons_succ, List.getElem_cons_zero, Act.put, List.setIfInBounds_toArray, List.set_cons_zero, List.set_cons_succ]
    refine wpAnyH_take (i := 8) (v := ?_) rfl (by kernel_rfl) (by kernel_rfl) (by kernel_rfl) (fun _ _ _ h => h) (Or.inl ⟨by rfl, ?_⟩) hHeld ?_
    rotate_left
    · (intro w hSw; obtain y0 := hSw; go_simp; (try with_reducible rfl))
    simp only [List.getElem_toArray, List.getElem_cons_succ, List.getElem_cons_zero, Act.put, List.setIfInBounds_toArray, List.set_cons_zero, List.set_cons_succ]
    refine wpAnyH_take (i := 9) (v := ?_) rfl (by kernel_rfl) (by kernel_rfl) (by kernel_rfl) (fun _ _ _ h => h) (Or.inl ⟨by rfl, ?_⟩) hHeld ?_
    rotate_left
    · (intro w hSw; obtain y0 := hSw; go_simp; (try with_reducible rfl))
    simp only [List.getElem_toArray, List.getElem_cons_succ, List.getElem_cons_zero, Act.put, List.setIfInBounds_toArray, List.set_cons_zero, List.set_cons_succ]
    have c88 := L8.out.cells.2.2.2.2.2.2.2.2.1
    have f88 := L8.out.free 8
    refine wpAnyH_ready (rs := [10]) (by kernel_rfl) (by simp) (AllReadyH.cons rfl (fun K hK => ?_) AllReadyH.nil)
    rw [if_pos (by rfl)]
    unfold Oper.wp execOp
    go_simp
    refine hK.out _ _ (X1.out w8 B8.out (.slice a8 n8 c8)) (fun hHeld => ?_)
    clear hK K
    refine wpAnyH_done (by kernel_rfl) ?_ _
    refine NoPanic.normal ?_
    have z8 : w7.heap.size ≤ w8.heap.size := B8.out.size
    have e1 : (w8.setCell ⟨q, 8, none⟩ (.slice a8 n8 c8)).heap[w.heap.size + 1]? = some (.cells #[.int .i64 0] 39) := (Below.heap_setCell _ _ _ _ (fun e => by have h1 := L7.out.tq; rw [show q = w.heap.size + 1 from e.symm, OO.out _ (by omega) (by omega)] at h1; omega)).trans ((B8.out.block _ (by omega)).trans B1.out)
    have e5 : (w8.setCell ⟨q, 8, none⟩ (.slice a8 n8 c8)).heap[w.heap.size + 5]? = some (.deferred (some [])) := (Below.heap_setCell _ _ _ _ (fun e => by have h1 := L7.out.tq; rw [show q = w.heap.size + 5 from e.symm, OO.out _ (by omega) (by omega)] at h1; omega)).trans ((B8.out.block _ (by omega)).trans B5.out)
    have e0 := X1.out w8 B8.out (.slice a8 n8 c8)
    have zz8 : (w8.setCell ⟨q, 8, none⟩ (.slice a8 n8 c8)).heap.size = w8.heap.size := by simp
    have ON : ∀ b, w.heap.size ≤ b → b < w.heap.size + 6 → re T1 w7 w8 (i + 2) b = 0 := fun b h1 h2 => (N8.out.2.old b (by omega)).trans (OO.out b h1 (by omega))
    generalize w8.setCell _ _ = W8 at *
    generalize re T1 w7 w8 (i + 2) = T8 at *
    have ON8 := Lib.hid ON
    have N9 := Lib.hid (N8.out.1.set (r' := { rawG pd a g with tail := g.tail.drop dn, forced := g.next }) 6 (.int .u64 (g.next : Int)) rfl rfl rfl)
    have c05 : W8.cell? ⟨q, 5, none⟩ = some (.int .u64 (g.next : Int)) := N8.out.1.cells.2.2.2.2.2.1
    have c06 : W8.cell? ⟨q, 6, none⟩ = some (.int .u64 (g.forced : Int)) := N8.out.1.cells.2.2.2.2.2.2.1
    have f06 := N8.out.1.free 6
    obtain ⟨W9, hW9⟩ : ∃ W9, W9 = W8.setCell ⟨q, 6, none⟩ (.int .u64 (g.next : Int)) := ⟨_, rfl⟩
    rw [← hW9] at N9
    have hq1 : q ≠ w.heap.size + 1 := fun e => by have h1 := N8.out.1.tq; rw [e, ON _ (by omega) (by omega)] at h1; omega
    have hq5 : q ≠ w.heap.size + 5 := fun e => by have h1 := N8.out.1.tq; rw [e, ON _ (by omega) (by omega)] at h1; omega
    have e91 : W9.heap[w.heap.size + 1]? = some (.cells #[.int .i64 0] 39) := by rw [hW9]; exact (Below.heap_setCell _ _ _ _ (fun e => hq1 e.symm)).trans e1
    have e95 : W9.heap[w.heap.size + 5]? = some (.deferred (some [])) := by rw [hW9]; exact (Below.heap_setCell _ _ _ _ (fun e => hq5 e.symm)).trans e5
    have E1 := Lib.hid e91
    have E5 := Lib.hid e95
    have e91c : W9.cell? ⟨w.heap.size + 1, 0, none⟩ = some (.int .i64 0) := cell_of_row _ _ 0 _ _ _ e91
    have e91f : W9.frozen? ⟨w.heap.size + 1, 0, none⟩ = false := frozen_of_row _ _ _ _ _ e91
    have S9 := Lib.hid ((((S11.out.mono (J := IO i) (fun k hk => .inl hk)).trans (D7.out.2.mono (fun k hk => .inl hk)) (by unfold IO I3; omega)).trans (N8.out.2.mono (fun k hk => show IO i k from .inr (hk.elim .inl (fun h => .inr (.inr h))))) (by unfold IO I3; omega)).trans (N9.out.2.mono (fun k hk => show IO i k from .inr (.inl hk))) (by unfold IO I3; omega))
    have D9 := Lib.hid ((D7.out.1.step N8.out.2 (by omega) L7.out.lt (by omega)).step N9.out.2 (by omega) N8.out.1.lt (by omega))
    have WE := Lib.hid (show ∀ WX : World, WX = (W9.setCell ⟨w.heap.size + 1, 0, none⟩ (.int .i64 0)).drew.putObj (w.heap.size + 5) (.deferred none) → FcP i q pd a T g b d w (.returned (.int .i64 0)) WX from fun WX hX => by
      have hk : ∀ b, b ≠ w.heap.size + 1 → b ≠ w.heap.size + 5 → WX.heap[b]? = W9.heap[b]? := fun b h1 h2 => by
        rw [hX]; exact (World.putObj_heap_other (by omega)).trans (Below.heap_setCell _ _ _ _ (by show b ≠ w.heap.size + 1; exact h1))
      have hsz : WX.heap.size = W9.heap.size := by rw [hX]; simp
      have hkt : ∀ b, T8 b ≠ 0 → WX.heap[b]? = W9.heap[b]? := fun b hb => hk b (fun e => hb (by rw [e]; exact ON8.out _ (by omega) (by omega))) (fun e => hb (by rw [e]; exact ON8.out _ (by omega) (by omega)))
      have L9 := N9.out.1.far (w' := WX) (by omega) (fun b hb => hkt b (by omega))
      have D10 := Rep.far (w' := WX) D9.out (by omega) (fun b hb => hkt b (by rw [show T8 b = 1 from hb]; decide))
      have S10 := Step.and (W' := WX) S9.out ⟨by rw [hX]; rfl, by rw [hX]; rfl, by rw [hX]; rfl, by omega, fun b hb => hk b (by omega) (by omega)⟩
      exact PO.out 0 T8 WX _ EE.out ⟨OKF.out, ⟨_, _, by rw [TG.out]; exact L9⟩, HAT.out⟩ ED.out D10 S10)
    rw [hW9] at E1 E5 e91c e91f WE
    clear ON hW9 N9 N8 L8 B8 X0 X1 e1 e5 e91 e95 hHeld c88 f88 z8 zz8 BQ e8q
    go_upto_region 19 with fail
    have hK2 : (((W8.setCell ⟨q, 6, none⟩ (.int .u64 (g.next : Int))).setCell ⟨w.heap.size + 1, 0, none⟩ (.int .i64 0)).drew).heap[w.heap.size + 5]? = some (.deferred (some [])) := (Below.heap_setCell _ _ _ _ (by show w.heap.size + 5 ≠ w.heap.size + 1; omega)).trans E5.out
    have hC2 : ((((W8.setCell ⟨q, 6, none⟩ (.int .u64 (g.next : Int))).setCell ⟨w.heap.size + 1, 0, none⟩ (.int .i64 0)).drew).putObj (w.heap.size + 5) (.deferred none)).cell? ⟨w.heap.size + 1, 0, none⟩ = some (.int .i64 0) := (World.cell?_of_block (a := ⟨w.heap.size + 1, 0, none⟩) (World.putObj_heap_other (by show w.heap.size + 1 ≠ w.heap.size + 5; omega))).trans (World.cell?_setCell_same (W8.setCell ⟨q, 6, none⟩ (.int .u64 (g.next : Int))) ⟨w.heap.size + 1, 0, none⟩ (.int .i64 0) e91c)
    have HK2 := Lib.hid hK2
    have HC2 := Lib.hid hC2
    clear hK2 hC2
    go_region
    go_wp2_with fail
    refine ⟨by simp, .inl ⟨_, _, rfl, run_takeDeferred HK2.out, ?_⟩⟩
    exact ⟨_, leave_f rfl HC2.out, WE.out _ rfl⟩

end Go.Proofs.Ytgohpompgiljiaa.Log
