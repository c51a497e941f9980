/-
  Walks: what ops of each kind do to a page.
-/
import Derived.Test.YtfcibccipkokoaaZ13
import Derived.Test.YtfcibccipkokoaaZ14
import Derived.Test.YtfcibccipkokoaaZ3
namespace Go.Proofs.Ytfcibccipkokoaa.Op
open Go.RowKit
open Go.Proofs.Ytfcibccipkokoaa.Page (Pg pgV pgC used nth)
attribute [local go_sem ↓] Go.wp_at_zero Go.wp_at_succ

/-- what an op does to the page in block g: a number, and the page, unless it is an error -/
def DeedP (w : World) (g : Nat) (v : Value) (c : Nat) (q : Pg) : Ending → World → Prop := fun e w' => e = .returned (.int .i64 (c : Int)) ∧ (c = 0 → ∃ v', Gx w' g q v' ∧ (Str w' v' ∨ v' = v)) ∧ Touch (fun x => x = g) w w'
theorem DeedP.no {w w0 w' : World} {g : Nat} {v : Value} {c : Nat} {q : Pg} (b : Below w.heap.size w w0) (t : Touch (fun x => x = g) w0 w') (hc : c ≠ 0) : DeedP w g v c q (.returned (.int .i64 (c : Int))) w' := ⟨rfl, fun h => absurd h hc, (Touch.ofNew b).trans' t⟩
theorem DeedP.yes {w w0 w' : World} {g : Nat} {v v' : Value} {q : Pg} (b : Below w.heap.size w w0) (t : Touch (fun x => x = g) w0 w') (X : Gx w' g q v') (s : Str w' v') : DeedP w g v 0 q (.returned (.int .i64 0)) w' := ⟨rfl, fun _ => ⟨v', X, .inl s⟩, (Touch.ofNew b).trans' t⟩
theorem made1 (W : World) (t : ByteArray) : Page.Rows (W.alloc (.cells #[.string t] 9)) (.slice (some ⟨W.heap.size, 0, none⟩) 1 1) [t] := by
  refine ⟨_, _, rfl, .inr ⟨W.heap.size, 0, rfl, by simp, fun j hj => ?_⟩⟩
  have h0 : j = 0 := by simp at hj; omega
  subst h0
  rw [cell_of_row _ _ _ _ _ _ (heap_alloc_new W _)]
  rfl
theorem pgC_one' (p : Pg) (a : Option Addr) (m c : Nat) : (pgC p (.slice a m c)).all (·.oneCell') = true := Array.all_eq_true_iff_forall_mem.2 (by
  intro v hv
  simp [pgC] at hv
  rcases hv with rfl | rfl | rfl | rfl | rfl | rfl <;> rfl)
theorem nilok_some (a : Addr) (n c : Nat) : Page.NilOk (.slice (some a) n c) := fun _ _ e => by cases e
theorem nilok_none : Page.NilOk (.slice none 0 0) := fun _ _ e => by cases e; rfl
theorem nilok_is {w : World} {v : Value} {l : List ByteArray} (h : Seq.Is Seq.strS w v l) : Page.NilOk v := by
  obtain ⟨a, cap, rfl, _, h2, _⟩ := h
  intro n c e
  simp only [Value.slice.injEq] at e
  obtain ⟨rfl, _, rfl⟩ := e
  exact h2 rfl

set_option maxRecDepth 100000 in
set_option maxHeartbeats 1000000 in
theorem d_put_any {w : World} {g : Nat} {p : Pg} {v u : Value} {o : O} {k : Nat} (X : Gx w g p v) (hk : o.at' = (k : Int)) (hk2 : k ≤ 488) (hl : p.rows.length ≤ 1000) :
    Calls Try.prog 105 #[.pointer (some ⟨g, 0, none⟩), oV o u] w (DeedP w g v (if p.rows.length < k then 3 else 0) { p with rows := p.rows.take k ++ ([o.text] ++ p.rows.drop k) }) := by
  obtain ⟨kind, page, at', off, text, rows, pkind, level, next⟩ := o
  simp only at hk
  subst hk
  have T0 := Lib.hid (Bx.start w ⟨kind, page, (k : Int), off, text, rows, pkind, level, next⟩ u)
  obtain ⟨a0, a1, a2, a3, a4, a5, a6, a7, a8⟩ := T0.out.nine
  simp only at a0 a1 a2 a3 a4 a5 a6 a7 a8
  have B1 := Lib.hid T0.out.below
  have X1 := Lib.hid (X.later B1.out)
  have X2 := Lib.hid (fun (W : World) (Y : Gx W g p v) => Y.later (below_new W (.cells #[.string text] 9)))
  have NP := Lib.hid (fun w0 w' b t => @DeedP.no w w0 w' g v 3 { p with rows := p.rows.take k ++ ([text] ++ p.rows.drop k) } b t (by decide))
  have YP := Lib.hid (fun w0 w' v' b t x s => @DeedP.yes w w0 w' g v v' { p with rows := p.rows.take k ++ ([text] ++ p.rows.drop k) } b t x s)
  have i1 : (0 : Int) ≤ (k : Int) := by omega
  have i2 : (k : Int) ≤ 488 := by omega
  clear T0 X
  unfold oV oC at *
  by_cases h : p.rows.length < k
  all_goals
    first | rw [if_pos h] | rw [if_neg h]
    go_enter Try.func105, Try.ntmps105
    go_upto_region 1 with fail
    generalize w.alloc _ = W1 at *
    have XW := Lib.hid (X2.out W1 X1.out)
    have BW := Lib.hid (B1.out.trans ((below_new W1 (.cells #[.string text] 9)).mono B1.out.size))
  · have K := Lib.hid (show Calls Try.prog 133 #[.pointer (some ⟨g, 0, none⟩), .int .i64 (k : Int), .int .i64 (k : Int), .slice (some ⟨W1.heap.size, 0, none⟩) 1 1] _ _ from swap_no XW.out (by omega) (f := k) (t := k) (by omega) (by omega) (.inr (by omega)))
    clear hk2 hl
    go_wp2_with fail
    refine K.out.mono ?_
    rintro e w4 ⟨rfl, t4⟩
    have T4 := Lib.hid t4
    clear t4 K
    go_wp2_with fail
    go_ret
    exact NP.out _ _ BW.out T4.out
  · have K := Lib.hid (show Calls Try.prog 133 #[.pointer (some ⟨g, 0, none⟩), .int .i64 (k : Int), .int .i64 (k : Int), .slice (some ⟨W1.heap.size, 0, none⟩) 1 1] _ _ from swap_yes XW.out (made1 W1 text) (nilok_some _ _ _) (by omega) (by simp) (f := k) (t := k) (by omega) (by omega))
    clear hk2 hl
    go_wp2_with fail
    refine K.out.mono ?_
    rintro e w4 ⟨rfl, ⟨v4, x4, s4⟩, t4⟩
    have T4 := Lib.hid t4
    have X4 := Lib.hid x4
    have S4 := Lib.hid s4
    clear t4 x4 s4 K
    go_wp2_with fail
    go_ret
    exact YP.out _ _ _ BW.out T4.out X4.out S4.out

set_option maxRecDepth 100000 in
set_option maxHeartbeats 1000000 in
theorem d_set_any {w : World} {g : Nat} {p : Pg} {v u : Value} {o : O} {k : Nat} (X : Gx w g p v) (hk : o.at' = (k : Int)) (hk2 : k ≤ 488) (hl : p.rows.length ≤ 1000) :
    Calls Try.prog 106 #[.pointer (some ⟨g, 0, none⟩), oV o u] w (DeedP w g v (if p.rows.length < k + 1 then 3 else 0) { p with rows := p.rows.take k ++ ([o.text] ++ p.rows.drop (k + 1)) }) := by
  obtain ⟨kind, page, at', off, text, rows, pkind, level, next⟩ := o
  simp only at hk
  subst hk
  have T0 := Lib.hid (Bx.start w ⟨kind, page, (k : Int), off, text, rows, pkind, level, next⟩ u)
  obtain ⟨a0, a1, a2, a3, a4, a5, a6, a7, a8⟩ := T0.out.nine
  simp only at a0 a1 a2 a3 a4 a5 a6 a7 a8
  have B1 := Lib.hid T0.out.below
  have X1 := Lib.hid (X.later B1.out)
  have X2 := Lib.hid (fun (W : World) (Y : Gx W g p v) => Y.later (below_new W (.cells #[.string text] 9)))
  have NP := Lib.hid (fun w0 w' b t => @DeedP.no w w0 w' g v 3 { p with rows := p.rows.take k ++ ([text] ++ p.rows.drop (k + 1)) } b t (by decide))
  have YP := Lib.hid (fun w0 w' v' b t x s => @DeedP.yes w w0 w' g v v' { p with rows := p.rows.take k ++ ([text] ++ p.rows.drop (k + 1)) } b t x s)
  have i1 : (0 : Int) ≤ (k : Int) := by omega
  have i2 : (k : Int) ≤ 488 := by omega
  clear T0 X
  unfold oV oC at *
  by_cases h : p.rows.length < k + 1
  all_goals
    first | rw [if_pos h] | rw [if_neg h]
    go_enter Try.func106, Try.ntmps106
    go_upto_region 1 with fail
    generalize w.alloc _ = W1 at *
    have XW := Lib.hid (X2.out W1 X1.out)
    have BW := Lib.hid (B1.out.trans ((below_new W1 (.cells #[.string text] 9)).mono B1.out.size))
  · have K := Lib.hid (show Calls Try.prog 133 #[.pointer (some ⟨g, 0, none⟩), .int .i64 (k : Int), .int .i64 ((k : Int) + 1), .slice (some ⟨W1.heap.size, 0, none⟩) 1 1] _ _ from swap_no XW.out (by omega) (f := k) (t := k + 1) (by omega) (by omega) (.inr (by omega)))
    clear hk2 hl
    go_wp2_with fail
    refine K.out.mono ?_
    rintro e w4 ⟨rfl, t4⟩
    have T4 := Lib.hid t4
    clear t4 K
    go_wp2_with fail
    go_ret
    exact NP.out _ _ BW.out T4.out
  · have K := Lib.hid (show Calls Try.prog 133 #[.pointer (some ⟨g, 0, none⟩), .int .i64 (k : Int), .int .i64 ((k : Int) + 1), .slice (some ⟨W1.heap.size, 0, none⟩) 1 1] _ _ from swap_yes XW.out (made1 W1 text) (nilok_some _ _ _) (by omega) (by simp) (f := k) (t := k + 1) (by omega) (by omega))
    clear hk2 hl
    go_wp2_with fail
    refine K.out.mono ?_
    rintro e w4 ⟨rfl, ⟨v4, x4, s4⟩, t4⟩
    have T4 := Lib.hid t4
    have X4 := Lib.hid x4
    have S4 := Lib.hid s4
    clear t4 x4 s4 K
    go_wp2_with fail
    go_ret
    exact YP.out _ _ _ BW.out T4.out X4.out S4.out

set_option maxRecDepth 100000 in
set_option maxHeartbeats 1000000 in
theorem d_drop_any {w : World} {g : Nat} {p : Pg} {v u : Value} {o : O} {k : Nat} (X : Gx w g p v) (hk : o.at' = (k : Int)) (hk2 : k ≤ 488) (hl : p.rows.length ≤ 1000) :
    Calls Try.prog 107 #[.pointer (some ⟨g, 0, none⟩), oV o u] w (DeedP w g v (if p.rows.length < k + 1 then 3 else 0) { p with rows := p.rows.take k ++ ([] ++ p.rows.drop (k + 1)) }) := by
  obtain ⟨kind, page, at', off, text, rows, pkind, level, next⟩ := o
  simp only at hk
  subst hk
  have T0 := Lib.hid (Bx.start w ⟨kind, page, (k : Int), off, text, rows, pkind, level, next⟩ u)
  obtain ⟨a0, a1, a2, a3, a4, a5, a6, a7, a8⟩ := T0.out.nine
  simp only at a0 a1 a2 a3 a4 a5 a6 a7 a8
  have B1 := Lib.hid T0.out.below
  have X1 := Lib.hid (X.later B1.out)
  have NP := Lib.hid (fun w0 w' b t => @DeedP.no w w0 w' g v 3 { p with rows := p.rows.take k ++ ([] ++ p.rows.drop (k + 1)) } b t (by decide))
  have YP := Lib.hid (fun w0 w' v' b t x s => @DeedP.yes w w0 w' g v v' { p with rows := p.rows.take k ++ ([] ++ p.rows.drop (k + 1)) } b t x s)
  have i1 : (0 : Int) ≤ (k : Int) := by omega
  have i2 : (k : Int) ≤ 488 := by omega
  clear T0 X
  unfold oV oC at *
  by_cases h : p.rows.length < k + 1
  all_goals
    first | rw [if_pos h] | rw [if_neg h]
    go_enter Try.func107, Try.ntmps107
    go_upto_region 1 with fail
    generalize w.alloc _ = W1 at *
    have XW := X1
    have BW := B1
  · have K := Lib.hid (show Calls Try.prog 133 #[.pointer (some ⟨g, 0, none⟩), .int .i64 (k : Int), .int .i64 ((k : Int) + 1), .slice none 0 0] _ _ from swap_no XW.out (by omega) (f := k) (t := k + 1) (by omega) (by omega) (.inr (by omega)))
    clear hk2 hl
    go_wp2_with fail
    refine K.out.mono ?_
    rintro e w4 ⟨rfl, t4⟩
    have T4 := Lib.hid t4
    clear t4 K
    go_wp2_with fail
    go_ret
    exact NP.out _ _ BW.out T4.out
  · have K := Lib.hid (show Calls Try.prog 133 #[.pointer (some ⟨g, 0, none⟩), .int .i64 (k : Int), .int .i64 ((k : Int) + 1), .slice none 0 0] _ _ from swap_yes XW.out (Page.Rows.nil _ none 0) nilok_none (by omega) (by simp) (f := k) (t := k + 1) (by omega) (by omega))
    clear hk2 hl
    go_wp2_with fail
    refine K.out.mono ?_
    rintro e w4 ⟨rfl, ⟨v4, x4, s4⟩, t4⟩
    have T4 := Lib.hid t4
    have X4 := Lib.hid x4
    have S4 := Lib.hid s4
    clear t4 x4 s4 K
    go_wp2_with fail
    go_ret
    exact YP.out _ _ _ BW.out T4.out X4.out S4.out

theorem Gx.next {w : World} {g : Nat} {p : Pg} {v : Value} (h : Gx w g p v) (hv : ∀ s, v ≠ .string s) (n : Nat) : Gx (w.setCell ⟨g, 4, none⟩ (.int .u32 (n : Int))) g { p with next := n } v :=
  ⟨by rw [heap_setCell_same _ _ _ _ _ _ h.box]; rfl, rows_beside (_cs := #[]) h.rows hv h.box 4 _, h.cap⟩
set_option maxRecDepth 100000 in
set_option maxHeartbeats 1000000 in
theorem d_next_any {w : World} {g : Nat} {p : Pg} {v u : Value} {o : O} (X : Gx w g p v) :
    Calls Try.prog 110 #[.pointer (some ⟨g, 0, none⟩), oV o u] w (DeedP w g v 0 { p with next := o.next }) := by
  have HV : ∀ s, v ≠ .string s := by obtain ⟨ad, c, e, _⟩ := X.rows; rw [e]; intro s hs; cases hs
  have T0 := Lib.hid (Bx.start w o u)
  obtain ⟨a0, a1, a2, a3, a4, a5, a6, a7, a8⟩ := T0.out.nine
  have B1 := Lib.hid T0.out.below
  have X1 := Lib.hid (X.later B1.out)
  clear T0 X
  unfold oV oC at *
  have YP := Lib.hid (fun (W1 : World) (b : Below w.heap.size w W1) (Y : Gx W1 g p v) => (show DeedP w g v 0 { p with next := o.next } (.returned (.int .i64 0)) (W1.setCell ⟨g, 4, none⟩ (.int .u32 (o.next : Int))) from ⟨rfl, fun _ => ⟨v, Y.next HV o.next, .inr rfl⟩, touch_set b 4 _⟩))
  go_enter Try.func110, Try.ntmps110
  go_upto_region 1 with fail
  generalize w.alloc _ = W1 at *
  obtain ⟨x0, x1, x2, x3, x4, x5⟩ := X1.out.six
  have z4 := X1.out.free 4
  clear x0 x1 x2 x3 x5 HV
  go_wp2_with fail
  go_ret
  exact YP.out _ B1.out X1.out
theorem format_gx {w : World} {g : Nat} {p : Pg} {v : Value} (h : Gx w g p v) (q : Pg) (hq : q.rows = []) : Gx (w.setRow g (pgC q (.slice none 0 0))) g q (.slice none 0 0) :=
  ⟨setRow_heap _ _ _ _ _ _ h.box, by rw [hq]; exact Page.Rows.nil _ none 0, Page.cap_none⟩
theorem str_none (w : World) : Str w (.slice none 0 0) := ⟨fun b hb => by simp [Value.ownBlock] at hb, Page.cap_none⟩
theorem touch_row {w W : World} {g : Nat} (t : Below w.heap.size w W) (cs : Array Value) : Touch (fun x => x = g) w (W.setRow g cs) :=
  (Touch.ofNew (F := fun x => x = g) t).trans' ⟨rfl, rfl, rfl, by simp [World.setRow], fun b _ hn => setRow_other _ _ _ _ hn⟩
set_option maxRecDepth 100000 in
set_option maxHeartbeats 1000000 in
theorem d_format_any {w : World} {g : Nat} {p : Pg} {v u : Value} {o : O} (X : Gx w g p v) :
    Calls Try.prog 104 #[.pointer (some ⟨g, 0, none⟩), oV o u] w (DeedP w g v 0 ⟨o.pkind, o.level, o.page, 0, o.next, []⟩) := by
  have T0 := Lib.hid (Bx.start w o u)
  obtain ⟨a0, a1, a2, a3, a4, a5, a6, a7, a8⟩ := T0.out.nine
  have B1 := Lib.hid T0.out.below
  have X1 := Lib.hid (X.later B1.out)
  clear T0 X
  unfold oV oC at *
  have YP := Lib.hid (fun (W1 : World) (b : Below w.heap.size w W1) (Y : Gx W1 g p v) => (show DeedP w g v 0 ⟨o.pkind, o.level, o.page, 0, o.next, []⟩ (.returned (.int .i64 0)) (W1.setRow g (pgC ⟨o.pkind, o.level, o.page, 0, o.next, []⟩ (.slice none 0 0))) from ⟨rfl, fun _ => ⟨_, format_gx Y ⟨o.pkind, o.level, o.page, 0, o.next, []⟩ rfl, .inl (str_none _)⟩, touch_row b _⟩))
  go_enter Try.func104, Try.ntmps104
  go_upto_region 1 with fail
  generalize w.alloc _ = W1 at *
  go_wp2_with (refine wpList_store_row rfl 64 _ _ rfl g (pgC ⟨o.pkind, o.level, o.page, 0, o.next, []⟩ (.slice none 0 0)) rfl rfl 64 (pgC p v) X1.out.box Page.info_page rfl (pgC_one' _ _ _ _) ?_)
  go_ret
  exact YP.out _ B1.out X1.out
theorem list_cut (l : List ByteArray) (k : Nat) : l.take k ++ ([] ++ l.drop l.length) = l.take k := by simp
theorem list_fill (l r : List ByteArray) : l.take l.length ++ (r ++ l.drop l.length) = l ++ r := by simp
theorem Touch.cell {w w' : World} {g b : Nat} (t : Touch (fun x => x = g) w w') (h : b < w.heap.size) (hn : b ≠ g) (j : Nat) : w'.cell? ⟨b, j, none⟩ = w.cell? ⟨b, j, none⟩ := World.cell?_of_block (t.block b h hn)
set_option maxRecDepth 100000 in
set_option maxHeartbeats 1000000 in
theorem d_cut_any {w : World} {g : Nat} {p : Pg} {v u : Value} {o : O} {k : Nat} (X : Gx w g p v) (hk : o.at' = (k : Int)) (hk2 : k ≤ 488) (hl : p.rows.length ≤ 1000) :
    Calls Try.prog 108 #[.pointer (some ⟨g, 0, none⟩), oV o u] w (DeedP w g v (if p.rows.length < k then 3 else 0) { p with rows := p.rows.take k }) := by
  obtain ⟨kind, page, at', off, text, rows, pkind, level, next⟩ := o
  simp only at hk
  subst hk
  have T0 := Lib.hid (Bx.start w ⟨kind, page, (k : Int), off, text, rows, pkind, level, next⟩ u)
  have hg : g < w.heap.size := (Array.getElem?_eq_some_iff.1 X.box).1
  have T2 := T0.out.nine.2.2.1
  simp only at T2
  have B1 := Lib.hid T0.out.below
  have X1 := Lib.hid (X.later B1.out)
  have HL := Lib.hid (show w.heap.size < (w.alloc (.cells (oC ⟨kind, page, (k : Int), off, text, rows, pkind, level, next⟩ u) 36)).heap.size by simp)
  have NP := Lib.hid (fun w0 w' b t => @DeedP.no w w0 w' g v 3 { p with rows := p.rows.take k } b t (by decide))
  have YP := Lib.hid (fun w0 w' v' b t x s => @DeedP.yes w w0 w' g v v' { p with rows := p.rows.take k } b t x s)
  have i1 : (0 : Int) ≤ (k : Int) := by omega
  have i2 : (k : Int) ≤ 488 := by omega
  have HN := Lib.hid (show w.heap.size ≠ g by omega)
  obtain ⟨ad, c, hv, _⟩ := id X.rows
  obtain ⟨n, hn⟩ : ∃ n, n = p.rows.length := ⟨_, rfl⟩
  rw [← hn] at hv
  subst hv
  have HNN := Lib.hid hn
  have KN := Lib.hid (fun (W : World) (Y : Gx W g p (.slice ad n c)) (h : n < k) => (show Calls Try.prog 133 #[.pointer (some ⟨g, 0, none⟩), .int .i64 (k : Int), .int .i64 (n : Int), .slice none 0 0] W _ from swap_no Y (by omega) (f := k) (t := n) (by omega) (by omega) (.inl h)))
  have KY := Lib.hid (fun (W : World) (Y : Gx W g p (.slice ad n c)) (h : ¬ n < k) => (show Calls Try.prog 133 #[.pointer (some ⟨g, 0, none⟩), .int .i64 (k : Int), .int .i64 (n : Int), .slice none 0 0] W _ from swap_yes Y (Page.Rows.nil W none 0) nilok_none (by omega) (by simp) (f := k) (t := n) (by omega) (by omega)))
  clear T0 X
  rw [← hn]
  clear hn hg
  unfold oV oC at *
  have CC := Lib.hid (fun (W : World) (Y : Gx W g p (.slice ad n c)) => Y.six.2.2.2.2.2)
  by_cases h : n < k
  all_goals
    first | rw [if_pos h] | rw [if_neg h]
    go_enter Try.func108, Try.ntmps108
    go_upto_region 1 with fail
    generalize w.alloc _ = W1 at *
    have c5 := CC.out W1 X1.out
    refine wp_region_noPanic ?_
    refine wp_region_held_drew (S := fun W => W.cell? ⟨w.heap.size, 2, none⟩ = some (.int .i64 (k : Int))) (by kernel_rfl) (by exact T2) (fun hHeld => ?_)
    refine wpAnyH_take (i := 0) (v := ?_) rfl (by kernel_rfl) (by kernel_rfl) (by kernel_rfl) (fun _ _ _ h => h) (Or.inl ⟨by rfl, ?_⟩) hHeld ?_
    rotate_left
    · (intro W hSw; (try dsimp only at hSw); go_simp; (try with_reducible rfl))
    simp only [List.getElem_toArray, List.getElem_cons_zero, Act.put, List.setIfInBounds_toArray, List.set_cons_zero, List.set_cons_succ]
    refine wpAnyH_take (i := 1) (v := ?_) rfl (by kernel_rfl) (by kernel_rfl) (by kernel_rfl) (fun _ _ _ h => h) (Or.inl ⟨by rfl, ?_⟩) hHeld ?_
    rotate_left
    · (intro W hSw; (try dsimp only at hSw); go_simp; (try with_reducible rfl))
    simp only [List.getElem_toArray, List.getElem_cons_succ, List.getElem_cons_zero, Act.put, List.setIfInBounds_toArray, List.set_cons_zero, List.set_cons_succ]
    refine wpAnyH_take (i := 2) (v := ?_) rfl (by kernel_rfl) (by kernel_rfl) (by kernel_rfl) (fun _ _ _ h => h) (Or.inl ⟨by rfl, ?_⟩) hHeld ?_
    rotate_left
    · (intro W hSw; (try dsimp only at hSw); go_simp; (try with_reducible rfl))
    simp only [List.getElem_toArray, List.getElem_cons_succ, List.getElem_cons_zero, Act.put, List.setIfInBounds_toArray, List.set_cons_zero, List.set_cons_succ]
    refine wpAnyH_take (i := 3) (v := ?_) rfl (by kernel_rfl) (by kernel_rfl) (by kernel_rfl) (fun _ _ _ h => h) (Or.inl ⟨by rfl, ?_⟩) hHeld ?_
    rotate_left
    · (intro W hSw; (try dsimp only at hSw); go_simp; (try with_reducible rfl))
    simp only [List.getElem_toArray, List.getElem_cons_succ, List.getElem_cons_zero, Act.put, List.setIfInBounds_toArray, List.set_cons_zero, List.set_cons_succ]
    refine wpAnyH_take (i := 4) (v := ?_) rfl (by kernel_rfl) (by kernel_rfl) (by kernel_rfl) (fun _ _ _ h => h) (Or.inl ⟨by rfl, ?_⟩) hHeld ?_
    rotate_left
    · (intro W hSw; (try dsimp only at hSw); go_simp; (try with_reducible rfl))
    simp only [List.getElem_toArray, List.getElem_cons_succ, List.getElem_cons_zero, Act.put, List.setIfInBounds_toArray, List.set_cons_zero, List.set_cons_succ]
    refine wpAnyH_take (i := 5) (v := ?_) rfl (by kernel_rfl) (by kernel_rfl) (by kernel_rfl) (fun _ _ _ h => h) (Or.inl ⟨by rfl, ?_⟩) hHeld ?_
    rotate_left
    · (intro W hSw; (try dsimp only at hSw); go_simp; (try with_reducible rfl))
    simp only [List.getElem_toArray, List.getElem_cons_succ, List.getElem_cons_zero, Act.put, List.setIfInBounds_toArray, List.set_cons_zero, List.set_cons_succ]
    refine wpAnyH_ready (rs := [6]) (by kernel_rfl) (by simp) (AllReadyH.cons rfl (fun K2 hK => ?_) AllReadyH.nil)
    rw [if_pos (by rfl)]
    unfold Oper.wp execOp
    go_simp
    refine hK.out _ _ hHeld (fun hHeld => ?_)
    clear hK K2
    try simp only [List.getElem_toArray, List.getElem_cons_succ, List.getElem_cons_zero, Act.put, List.setIfInBounds_toArray, List.set_cons_zero, List.set_cons_succ]
    refine wpAnyH_take (i := 7) (v := ?_) rfl (by kernel_rfl) (by kernel_rfl) (by kernel_rfl) (fun _ _ _ h => h) (Or.inl ⟨by rfl, ?_⟩) hHeld ?_
    rotate_left
    · (intro W hSw; (try dsimp only at hSw); go_simp; (try with_reducible rfl))
    simp only [List.getElem_toArray, List.getElem_cons_succ, List.getElem_cons_zero, Act.put, List.setIfInBounds_toArray, List.set_cons_zero, List.set_cons_succ]
  · skip
    refine wpAnyH_ready (rs := [8]) (by kernel_rfl) (by simp) (AllReadyH.cons rfl (fun K2 hK => ?_) AllReadyH.nil)
    refine step_fn (by rfl) (.func 133) [.tmp 5, .tmp 7, .tmp 12, .const (.slice none 0 0)] _ rfl 133 [] (by simp [Act.eval]) _ Try.func133 (by kernel_rfl) (by kernel_rfl) (KN.out _ X1.out.drew h) (by simp [Act.eval]) ?_
    rintro e w4 ⟨rfl, t4⟩
    refine ⟨_, rfl, ?_⟩
    have T4 := Lib.hid t4
    refine hK.out _ _ ((Touch.cell T4.out HL.out HN.out 2).trans T2) (fun hHeld => ?_)
    clear hK K2 t4
    simp only [List.getElem_toArray, List.getElem_cons_succ, List.getElem_cons_zero, Act.put, List.setIfInBounds_toArray, List.set_cons_zero, List.set_cons_succ]
    refine wpAnyH_take (i := 9) (v := ?_) rfl (by kernel_rfl) (by kernel_rfl) (by kernel_rfl) (fun _ _ _ h => h) (Or.inl ⟨by rfl, ?_⟩) hHeld ?_
    rotate_left
    · (intro W hSw; (try dsimp only at hSw); go_simp; (try with_reducible rfl))
    simp only [List.getElem_toArray, List.getElem_cons_succ, List.getElem_cons_zero, Act.put, List.setIfInBounds_toArray, List.set_cons_zero, List.set_cons_succ]
    refine wpAnyH_done (by kernel_rfl) ?_ _
    refine NoPanic.normal ?_
    go_wp2_with fail
    go_ret
    exact NP.out _ _ (B1.out.trans (Below.refl _ _).drew) T4.out
  · skip
    refine wpAnyH_ready (rs := [8]) (by kernel_rfl) (by simp) (AllReadyH.cons rfl (fun K2 hK => ?_) AllReadyH.nil)
    refine step_fn (by rfl) (.func 133) [.tmp 5, .tmp 7, .tmp 12, .const (.slice none 0 0)] _ rfl 133 [] (by simp [Act.eval]) _ Try.func133 (by kernel_rfl) (by kernel_rfl) (KY.out _ X1.out.drew h) (by simp [Act.eval]) ?_
    rintro e w4 ⟨rfl, ⟨v4, x4, s4⟩, t4⟩
    refine ⟨_, rfl, ?_⟩
    have T4 := Lib.hid t4
    have X4 := Lib.hid x4; have S4 := Lib.hid s4
    refine hK.out _ _ ((Touch.cell T4.out HL.out HN.out 2).trans T2) (fun hHeld => ?_)
    clear hK K2 t4 x4 s4
    simp only [List.getElem_toArray, List.getElem_cons_succ, List.getElem_cons_zero, Act.put, List.setIfInBounds_toArray, List.set_cons_zero, List.set_cons_succ]
    refine wpAnyH_take (i := 9) (v := ?_) rfl (by kernel_rfl) (by kernel_rfl) (by kernel_rfl) (fun _ _ _ h => h) (Or.inl ⟨by rfl, ?_⟩) hHeld ?_
    rotate_left
    · (intro W hSw; (try dsimp only at hSw); go_simp; (try with_reducible rfl))
    simp only [List.getElem_toArray, List.getElem_cons_succ, List.getElem_cons_zero, Act.put, List.setIfInBounds_toArray, List.set_cons_zero, List.set_cons_succ]
    refine wpAnyH_done (by kernel_rfl) ?_ _
    refine NoPanic.normal ?_
    go_wp2_with fail
    go_ret
    exact YP.out _ _ _ (B1.out.trans (Below.refl _ _).drew) T4.out (by have := X4.out; rw [HNN.out, list_cut] at this; exact this) S4.out
set_option maxRecDepth 100000 in
set_option maxHeartbeats 1000000 in
theorem d_fill_any {w : World} {g : Nat} {p : Pg} {v u : Value} {o : O} (X : Gx w g p v) (hi : In w o u) (hr : o.rows.length ≤ 488) (hl : p.rows.length ≤ 1000) :
    Calls Try.prog 109 #[.pointer (some ⟨g, 0, none⟩), oV o u] w (DeedP w g v 0 { p with rows := p.rows ++ o.rows }) := by
  have T0 := Lib.hid (Bx.start w o u)
  have hg : g < w.heap.size := (Array.getElem?_eq_some_iff.1 X.box).1
  have B1 := Lib.hid T0.out.below
  have X1 := Lib.hid (X.later B1.out)
  have RI := Lib.hid (is_rows2 (hi.rows.later (B1.out.trans (Below.refl _ _).drew)))
  have RN := Lib.hid (nilok_is hi.rows)
  have HL := Lib.hid (show w.heap.size < (w.alloc (.cells (oC o u) 36)).heap.size by simp)
  obtain ⟨ua, uc, hu⟩ := hi.rows.shape
  obtain ⟨un, hun⟩ : ∃ un, un = o.rows.length := ⟨_, rfl⟩
  rw [← hun] at hu hr
  subst hu
  have T5 := T0.out.nine.2.2.2.2.2.1
  have YP := Lib.hid (fun w0 w' v' b t x s => @DeedP.yes w w0 w' g v v' { p with rows := p.rows ++ o.rows } b t x s)
  have HN := Lib.hid (show w.heap.size ≠ g by omega)
  obtain ⟨ad, c, hv, _⟩ := id X.rows
  obtain ⟨n, hn⟩ : ∃ n, n = p.rows.length := ⟨_, rfl⟩
  rw [← hn] at hv hl
  subst hv
  have HNN := Lib.hid hn
  have KY := Lib.hid (fun (W : World) (Y : Gx W g p (.slice ad n c)) (hR : Page.Rows W (.slice ua un uc) o.rows) => (show Calls Try.prog 133 #[.pointer (some ⟨g, 0, none⟩), .int .i64 (n : Int), .int .i64 (n : Int), .slice ua un uc] W _ from swap_yes Y hR RN.out (by omega) (by omega) (f := n) (t := n) (by omega) (by omega)))
  clear T0 X hi hun hn hg
  unfold oV oC at *
  have CC := Lib.hid (fun (W : World) (Y : Gx W g p (.slice ad n c)) => Y.six.2.2.2.2.2)
  go_enter Try.func109, Try.ntmps109
  go_upto_region 1 with fail
  generalize w.alloc _ = W1 at *
  have c5 := CC.out W1 X1.out
  refine wp_region_noPanic ?_
  refine wp_region_held_drew (S := fun W => W.cell? ⟨w.heap.size, 5, none⟩ = some (.slice ua un uc)) (by kernel_rfl) (by exact T5) (fun hHeld => ?_)
  refine wpAnyH_take (i := 0) (v := ?_) rfl (by kernel_rfl) (by kernel_rfl) (by kernel_rfl) (fun _ _ _ h => h) (Or.inl ⟨by rfl, ?_⟩) hHeld ?_
  rotate_left
  · (intro W hSw; (try dsimp only at hSw); go_simp; (try with_reducible rfl))
  simp only [List.getElem_toArray, List.getElem_cons_zero, Act.put, List.setIfInBounds_toArray, List.set_cons_zero, List.set_cons_succ]
  refine wpAnyH_take (i := 1) (v := ?_) rfl (by kernel_rfl) (by kernel_rfl) (by kernel_rfl) (fun _ _ _ h => h) (Or.inl ⟨by rfl, ?_⟩) hHeld ?_
  rotate_left
  · (intro W hSw; (try dsimp only at hSw); go_simp; (try with_reducible rfl))
  simp only [List.getElem_toArray, List.getElem_cons_succ, List.getElem_cons_zero, Act.put, List.setIfInBounds_toArray, List.set_cons_zero, List.set_cons_succ]
  refine wpAnyH_take (i := 2) (v := ?_) rfl (by kernel_rfl) (by kernel_rfl) (by kernel_rfl) (fun _ _ _ h => h) (Or.inl ⟨by rfl, ?_⟩) hHeld ?_
  rotate_left
  · (intro W hSw; (try dsimp only at hSw); go_simp; (try with_reducible rfl))
  simp only [List.getElem_toArray, List.getElem_cons_succ, List.getElem_cons_zero, Act.put, List.setIfInBounds_toArray, List.set_cons_zero, List.set_cons_succ]
  refine wpAnyH_take (i := 3) (v := ?_) rfl (by kernel_rfl) (by kernel_rfl) (by kernel_rfl) (fun _ _ _ h => h) (Or.inl ⟨by rfl, ?_⟩) hHeld ?_
  rotate_left
  · (intro W hSw; (try dsimp only at hSw); go_simp; (try with_reducible rfl))
  simp only [List.getElem_toArray, List.getElem_cons_succ, List.getElem_cons_zero, Act.put, List.setIfInBounds_toArray, List.set_cons_zero, List.set_cons_succ]
  refine wpAnyH_take (i := 6) (v := ?_) rfl (by kernel_rfl) (by kernel_rfl) (by kernel_rfl) (fun _ _ _ h => h) (Or.inl ⟨by rfl, ?_⟩) hHeld ?_
  rotate_left
  · (intro W hSw; (try dsimp only at hSw); go_simp; (try with_reducible rfl))
  simp only [List.getElem_toArray, List.getElem_cons_succ, List.getElem_cons_zero, Act.put, List.setIfInBounds_toArray, List.set_cons_zero, List.set_cons_succ]
  refine wpAnyH_take (i := 7) (v := ?_) rfl (by kernel_rfl) (by kernel_rfl) (by kernel_rfl) (fun _ _ _ h => h) (Or.inl ⟨by rfl, ?_⟩) hHeld ?_
  rotate_left
  · (intro W hSw; (try dsimp only at hSw); go_simp; (try with_reducible rfl))
  simp only [List.getElem_toArray, List.getElem_cons_succ, List.getElem_cons_zero, Act.put, List.setIfInBounds_toArray, List.set_cons_zero, List.set_cons_succ]
  refine wpAnyH_take (i := 8) (v := ?_) rfl (by kernel_rfl) (by kernel_rfl) (by kernel_rfl) (fun _ _ _ h => h) (Or.inl ⟨by rfl, ?_⟩) hHeld ?_
  rotate_left
  · (intro W hSw; (try dsimp only at hSw); go_simp; (try with_reducible rfl))
  simp only [List.getElem_toArray, List.getElem_cons_succ, List.getElem_cons_zero, Act.put, List.setIfInBounds_toArray, List.set_cons_zero, List.set_cons_succ]
  refine wpAnyH_take (i := 11) (v := ?_) rfl (by kernel_rfl) (by kernel_rfl) (by kernel_rfl) (fun _ _ _ h => h) (Or.inl ⟨by rfl, ?_⟩) hHeld ?_
  rotate_left
  · (intro W hSw; (try dsimp only at hSw); go_simp; (try with_reducible rfl))
  simp only [List.getElem_toArray, List.getElem_cons_succ, List.getElem_cons_zero, Act.put, List.setIfInBounds_toArray, List.set_cons_zero, List.set_cons_succ]
  refine wpAnyH_take (i := 12) (v := ?_) rfl (by kernel_rfl) (by kernel_rfl) (by kernel_rfl) (fun _ _ _ h => h) (Or.inl ⟨by rfl, ?_⟩) hHeld ?_
  rotate_left
  · (intro W hSw; (try dsimp only at hSw); go_simp; (try with_reducible rfl))
  simp only [List.getElem_toArray, List.getElem_cons_succ, List.getElem_cons_zero, Act.put, List.setIfInBounds_toArray, List.set_cons_zero, List.set_cons_succ]
  refine wpAnyH_ready (rs := [4, 9]) (by kernel_rfl) (by simp) (AllReadyH.cons rfl (fun K2 hK => ?_) (AllReadyH.cons rfl (fun K2 hK => ?_) AllReadyH.nil))
  · skip
    rw [if_pos (by rfl)]
    unfold Oper.wp execOp
    go_simp
    refine hK.out _ _ hHeld (fun hHeld => ?_)
    clear hK K2
    try simp only [List.getElem_toArray, List.getElem_cons_succ, List.getElem_cons_zero, Act.put, List.setIfInBounds_toArray, List.set_cons_zero, List.set_cons_succ]
    refine wpAnyH_take (i := 5) (v := ?_) rfl (by kernel_rfl) (by kernel_rfl) (by kernel_rfl) (fun _ _ _ h => h) (Or.inl ⟨by rfl, ?_⟩) hHeld ?_
    rotate_left
    · (intro W hSw; (try dsimp only at hSw); go_simp; (try with_reducible rfl))
    simp only [List.getElem_toArray, List.getElem_cons_succ, List.getElem_cons_zero, Act.put, List.setIfInBounds_toArray, List.set_cons_zero, List.set_cons_succ]
    refine wpAnyH_ready (rs := [9]) (by kernel_rfl) (by simp) (AllReadyH.cons rfl (fun K2 hK => ?_) AllReadyH.nil)
    rw [if_pos (by rfl)]
    unfold Oper.wp execOp
    go_simp
    refine hK.out _ _ hHeld (fun hHeld => ?_)
    clear hK K2
    try simp only [List.getElem_toArray, List.getElem_cons_succ, List.getElem_cons_zero, Act.put, List.setIfInBounds_toArray, List.set_cons_zero, List.set_cons_succ]
    refine wpAnyH_take (i := 10) (v := ?_) rfl (by kernel_rfl) (by kernel_rfl) (by kernel_rfl) (fun _ _ _ h => h) (Or.inl ⟨by rfl, ?_⟩) hHeld ?_
    rotate_left
    · (intro W hSw; (try dsimp only at hSw); go_simp; (try with_reducible rfl))
    simp only [List.getElem_toArray, List.getElem_cons_succ, List.getElem_cons_zero, Act.put, List.setIfInBounds_toArray, List.set_cons_zero, List.set_cons_succ]
    refine wpAnyH_ready (rs := [13]) (by kernel_rfl) (by simp) (AllReadyH.cons rfl (fun K2 hK => ?_) AllReadyH.nil)
    refine step_fn (by rfl) (.func 133) [.tmp 5, .tmp 10, .tmp 15, .tmp 17] _ rfl 133 [] (by simp [Act.eval]) _ Try.func133 (by kernel_rfl) (by kernel_rfl) (KY.out _ X1.out.drew RI.out) (by simp [Act.eval]) ?_
    rintro e w4 ⟨rfl, ⟨v4, x4, s4⟩, t4⟩
    refine ⟨_, rfl, ?_⟩
    have T4 := Lib.hid t4
    have X4 := Lib.hid x4; have S4 := Lib.hid s4
    refine hK.out _ _ ((Touch.cell T4.out HL.out HN.out 5).trans T5) (fun hHeld => ?_)
    clear hK K2 t4 x4 s4
    simp only [List.getElem_toArray, List.getElem_cons_succ, List.getElem_cons_zero, Act.put, List.setIfInBounds_toArray, List.set_cons_zero, List.set_cons_succ]
    refine wpAnyH_take (i := 14) (v := ?_) rfl (by kernel_rfl) (by kernel_rfl) (by kernel_rfl) (fun _ _ _ h => h) (Or.inl ⟨by rfl, ?_⟩) hHeld ?_
    rotate_left
    · (intro W hSw; (try dsimp only at hSw); go_simp; (try with_reducible rfl))
    simp only [List.getElem_toArray, List.getElem_cons_succ, List.getElem_cons_zero, Act.put, List.setIfInBounds_toArray, List.set_cons_zero, List.set_cons_succ]
    refine wpAnyH_done (by kernel_rfl) ?_ _
    refine NoPanic.normal ?_
    go_wp2_with fail
    go_ret
    exact YP.out _ _ _ (B1.out.trans (Below.refl _ _).drew) T4.out (by have := X4.out; rw [HNN.out, list_fill] at this; exact this) S4.out
  · skip
    rw [if_pos (by rfl)]
    unfold Oper.wp execOp
    go_simp
    refine hK.out _ _ hHeld (fun hHeld => ?_)
    clear hK K2
    try simp only [List.getElem_toArray, List.getElem_cons_succ, List.getElem_cons_zero, Act.put, List.setIfInBounds_toArray, List.set_cons_zero, List.set_cons_succ]
    refine wpAnyH_take (i := 10) (v := ?_) rfl (by kernel_rfl) (by kernel_rfl) (by kernel_rfl) (fun _ _ _ h => h) (Or.inl ⟨by rfl, ?_⟩) hHeld ?_
    rotate_left
    · (intro W hSw; (try dsimp only at hSw); go_simp; (try with_reducible rfl))
    simp only [List.getElem_toArray, List.getElem_cons_succ, List.getElem_cons_zero, Act.put, List.setIfInBounds_toArray, List.set_cons_zero, List.set_cons_succ]
    refine wpAnyH_ready (rs := [4]) (by kernel_rfl) (by simp) (AllReadyH.cons rfl (fun K2 hK => ?_) AllReadyH.nil)
    rw [if_pos (by rfl)]
    unfold Oper.wp execOp
    go_simp
    refine hK.out _ _ hHeld (fun hHeld => ?_)
    clear hK K2
    try simp only [List.getElem_toArray, List.getElem_cons_succ, List.getElem_cons_zero, Act.put, List.setIfInBounds_toArray, List.set_cons_zero, List.set_cons_succ]
    refine wpAnyH_take (i := 5) (v := ?_) rfl (by kernel_rfl) (by kernel_rfl) (by kernel_rfl) (fun _ _ _ h => h) (Or.inl ⟨by rfl, ?_⟩) hHeld ?_
    rotate_left
    · (intro W hSw; (try dsimp only at hSw); go_simp; (try with_reducible rfl))
    simp only [List.getElem_toArray, List.getElem_cons_succ, List.getElem_cons_zero, Act.put, List.setIfInBounds_toArray, List.set_cons_zero, List.set_cons_succ]
    refine wpAnyH_ready (rs := [13]) (by kernel_rfl) (by simp) (AllReadyH.cons rfl (fun K2 hK => ?_) AllReadyH.nil)
    refine step_fn (by rfl) (.func 133) [.tmp 5, .tmp 10, .tmp 15, .tmp 17] _ rfl 133 [] (by simp [Act.eval]) _ Try.func133 (by kernel_rfl) (by kernel_rfl) (KY.out _ X1.out.drew RI.out) (by simp [Act.eval]) ?_
    rintro e w4 ⟨rfl, ⟨v4, x4, s4⟩, t4⟩
    refine ⟨_, rfl, ?_⟩
    have T4 := Lib.hid t4
    have X4 := Lib.hid x4; have S4 := Lib.hid s4
    refine hK.out _ _ ((Touch.cell T4.out HL.out HN.out 5).trans T5) (fun hHeld => ?_)
    clear hK K2 t4 x4 s4
    simp only [List.getElem_toArray, List.getElem_cons_succ, List.getElem_cons_zero, Act.put, List.setIfInBounds_toArray, List.set_cons_zero, List.set_cons_succ]
    refine wpAnyH_take (i := 14) (v := ?_) rfl (by kernel_rfl) (by kernel_rfl) (by kernel_rfl) (fun _ _ _ h => h) (Or.inl ⟨by rfl, ?_⟩) hHeld ?_
    rotate_left
    · (intro W hSw; (try dsimp only at hSw); go_simp; (try with_reducible rfl))
    simp only [List.getElem_toArray, List.getElem_cons_succ, List.getElem_cons_zero, Act.put, List.setIfInBounds_toArray, List.set_cons_zero, List.set_cons_succ]
    refine wpAnyH_done (by kernel_rfl) ?_ _
    refine NoPanic.normal ?_
    go_wp2_with fail
    go_ret
    exact YP.out _ _ _ (B1.out.trans (Below.refl _ _).drew) T4.out (by have := X4.out; rw [HNN.out, list_fill] at this; exact this) S4.out
set_option maxRecDepth 100000 in
set_option maxHeartbeats 2000000 in
theorem d_patch_any {w : World} {g : Nat} {p : Pg} {v u : Value} {o : O} {k f : Nat} (X : Gx w g p v) (hk : o.at' = (k : Int)) (hf : o.off = (f : Int)) (hk2 : k ≤ 488) (hf2 : f ≤ 488) (ht : o.text.size ≤ 488) (hl : p.rows.length ≤ 1000) (hz : ∀ j, j < p.rows.length → (nth p.rows j).size ≤ 1000) :
    Calls Try.prog 111 #[.pointer (some ⟨g, 0, none⟩), oV o u] w (DeedP w g v (if p.rows.length < k + 1 then 3 else if (nth p.rows k).size < f + o.text.size then 2 else 0) { p with rows := p.rows.take k ++ ([patch (nth p.rows k) f o.text] ++ p.rows.drop (k + 1)) }) := by
  obtain ⟨kind, page, at', off, text, rows, pkind, level, next⟩ := o
  simp only at hk hf ht
  subst hk hf
  have T0 := Lib.hid (Bx.start w ⟨kind, page, (k : Int), (f : Int), text, rows, pkind, level, next⟩ u)
  obtain ⟨_, _, T2, T3, T4, _, _, _, _⟩ := T0.out.nine
  simp only at T2 T3 T4
  have B1 := Lib.hid T0.out.below
  have X1 := Lib.hid (X.later B1.out)
  obtain ⟨ad, c, hv, _⟩ := id X.rows
  obtain ⟨n, hn⟩ : ∃ n, n = p.rows.length := ⟨_, rfl⟩
  rw [← hn] at hv hl hz
  subst hv
  have CC := Lib.hid (fun (W : World) (Y : Gx W g p (.slice ad n c)) => Y.six.2.2.2.2.2)
  have T5 := CC.out _ X1.out
  have i1 : (0 : Int) ≤ (k : Int) := by omega
  have i2 : (k : Int) ≤ 488 := by omega
  have BX := Lib.hid (fun (W : World) (t : Below (w.alloc (.cells (oC ⟨kind, page, (k : Int), (f : Int), text, rows, pkind, level, next⟩ u) 36)).heap.size (w.alloc (.cells (oC ⟨kind, page, (k : Int), (f : Int), text, rows, pkind, level, next⟩ u) 36)) W) => (T0.out.later t).nine)
  simp only at BX
  unfold oV oC at *
  simp only [← hn]
  by_cases h : n < k + 1
  · rw [if_pos h]
    have NP := Lib.hid (fun w0 w' b t => @DeedP.no w w0 w' g (.slice ad n c) 3 { p with rows := p.rows.take k ++ ([patch (nth p.rows k) f text] ++ p.rows.drop (k + 1)) } b t (by decide))
    have TR := Lib.hid (fun W : World => Touch.refl (fun x => x = g) W)
    have hI : (n : Int) ≤ (k : Int) := by omega
    clear X hn hz T0 CC X1 BX
    go_enter Try.func111, Try.ntmps111
    go_upto_region 1 with fail
    generalize w.alloc _ = W1 at *
    refine wp_region_noPanic ?_
    refine wp_region_held_drew (S := fun W => W.cell? ⟨w.heap.size, 2, none⟩ = some (.int .i64 (k : Int)) ∧ W.cell? ⟨g, 5, none⟩ = some (.slice ad n c)) (by kernel_rfl) (by exact ⟨T2, T5⟩) (fun hHeld => ?_)
    refine wpAnyH_take (i := 0) (v := ?_) rfl (by kernel_rfl) (by kernel_rfl) (by kernel_rfl) (fun _ _ _ h => h) (Or.inl ⟨by rfl, ?_⟩) hHeld ?_
    rotate_left
    · (intro W hSw; (try dsimp only at hSw); go_simp; (try with_reducible rfl))
    simp only [List.getElem_toArray, List.getElem_cons_zero, Act.put, List.setIfInBounds_toArray, List.set_cons_zero, List.set_cons_succ]
    refine wpAnyH_take (i := 1) (v := ?_) rfl (by kernel_rfl) (by kernel_rfl) (by kernel_rfl) (fun _ _ _ h => h) (Or.inl ⟨by rfl, ?_⟩) hHeld ?_
    rotate_left
    · (intro W hSw; (try dsimp only at hSw); go_simp; (try with_reducible rfl))
    simp only [List.getElem_toArray, List.getElem_cons_succ, List.getElem_cons_zero, Act.put, List.setIfInBounds_toArray, List.set_cons_zero, List.set_cons_succ]
    refine wpAnyH_take (i := 2) (v := ?_) rfl (by kernel_rfl) (by kernel_rfl) (by kernel_rfl) (fun _ _ _ h => h) (Or.inl ⟨by rfl, ?_⟩) hHeld ?_
    rotate_left
    · (intro W hSw; (try dsimp only at hSw); go_simp; (try with_reducible rfl))
    simp only [List.getElem_toArray, List.getElem_cons_succ, List.getElem_cons_zero, Act.put, List.setIfInBounds_toArray, List.set_cons_zero, List.set_cons_succ]
    refine wpAnyH_take (i := 3) (v := ?_) rfl (by kernel_rfl) (by kernel_rfl) (by kernel_rfl) (fun _ _ _ h => h) (Or.inl ⟨by rfl, ?_⟩) hHeld ?_
    rotate_left
    · (intro W hSw; (try dsimp only at hSw); go_simp; (try with_reducible rfl))
    simp only [List.getElem_toArray, List.getElem_cons_succ, List.getElem_cons_zero, Act.put, List.setIfInBounds_toArray, List.set_cons_zero, List.set_cons_succ]
    refine wpAnyH_take (i := 4) (v := ?_) rfl (by kernel_rfl) (by kernel_rfl) (by kernel_rfl) (fun _ _ _ h => h) (Or.inl ⟨by rfl, ?_⟩) hHeld ?_
    rotate_left
    · (intro W hSw; (try dsimp only at hSw); go_simp; (try with_reducible rfl))
    simp only [List.getElem_toArray, List.getElem_cons_succ, List.getElem_cons_zero, Act.put, List.setIfInBounds_toArray, List.set_cons_zero, List.set_cons_succ]
    refine wpAnyH_take (i := 5) (v := ?_) rfl (by kernel_rfl) (by kernel_rfl) (by kernel_rfl) (fun _ _ _ h => h) (Or.inl ⟨by rfl, ?_⟩) hHeld ?_
    rotate_left
    · (intro W hSw; (try dsimp only at hSw); go_simp; (try with_reducible rfl))
    simp only [List.getElem_toArray, List.getElem_cons_succ, List.getElem_cons_zero, Act.put, List.setIfInBounds_toArray, List.set_cons_zero, List.set_cons_succ]
    refine wpAnyH_take (i := 6) (v := ?_) rfl (by kernel_rfl) (by kernel_rfl) (by kernel_rfl) (fun _ _ _ h => h) (Or.inl ⟨by rfl, ?_⟩) hHeld ?_
    rotate_left
    · (intro W hSw; (try dsimp only at hSw); go_simp; (try with_reducible rfl))
    simp only [List.getElem_toArray, List.getElem_cons_succ, List.getElem_cons_zero, Act.put, List.setIfInBounds_toArray, List.set_cons_zero, List.set_cons_succ]
    refine wpAnyH_take (i := 7) (v := ?_) rfl (by kernel_rfl) (by kernel_rfl) (by kernel_rfl) (fun _ _ _ h => h) (Or.inl ⟨by rfl, ?_⟩) hHeld ?_
    rotate_left
    · (intro W hSw; (try dsimp only at hSw); go_simp; (try with_reducible rfl))
    simp only [List.getElem_toArray, List.getElem_cons_succ, List.getElem_cons_zero, Act.put, List.setIfInBounds_toArray, List.set_cons_zero, List.set_cons_succ]
    refine wpAnyH_done (by kernel_rfl) ?_ _
    refine NoPanic.normal ?_
    go_wp2_with fail
    go_ret
    exact NP.out _ _ (B1.out.trans (Below.refl _ _).drew) (TR.out _)
  rw [if_neg h]
  have hkn : k < p.rows.length := by omega
  obtain ⟨b, ro, rfl, hb, hc⟩ := (show Page.Rows _ (.slice ad p.rows.length c) p.rows by rw [← hn]; exact X1.out.rows).at hkn
  have NB := Lib.hid hb
  have zs := hz k (by omega)
  generalize hs : nth p.rows k = s at *
  have KS := Lib.hid (fun W => cset_any s (f : Int) text W (by omega) (by omega))
  have RC := Lib.hid (fun (W : World) (t : Below (w.alloc (.cells #[.int .u8 (kind : Int), .int .u32 (page : Int), .int .i64 (k : Int), .int .i64 (f : Int), .string text, u, .int .u8 (pkind : Int), .int .u8 (level : Int), .int .u32 (next : Int)] 36)).heap.size (w.alloc (.cells #[.int .u8 (kind : Int), .int .u32 (page : Int), .int .i64 (k : Int), .int .i64 (f : Int), .string text, u, .int .u8 (pkind : Int), .int .u8 (level : Int), .int .u32 (next : Int)] 36)) W) => (World.cell?_of_block (a := ⟨b, ro + k, none⟩) (t.block b NB.out)).trans hc)
  have NP := Lib.hid (fun w0 w' bb t => @DeedP.no w w0 w' g (.slice (some ⟨b, ro, none⟩) n c) 2 { p with rows := p.rows.take k ++ ([patch s f text] ++ p.rows.drop (k + 1)) } bb t (by decide))
  have YP := Lib.hid (fun w0 w' v' bb t x s' => @DeedP.yes w w0 w' g (.slice (some ⟨b, ro, none⟩) n c) v' { p with rows := p.rows.take k ++ ([patch s f text] ++ p.rows.drop (k + 1)) } bb t x s')
  have SS := Lib.hid (fun (W : World) (t : Below (w.alloc (.cells #[.int .u8 (kind : Int), .int .u32 (page : Int), .int .i64 (k : Int), .int .i64 (f : Int), .string text, u, .int .u8 (pkind : Int), .int .u8 (level : Int), .int .u32 (next : Int)] 36)).heap.size (w.alloc (.cells #[.int .u8 (kind : Int), .int .u32 (page : Int), .int .i64 (k : Int), .int .i64 (f : Int), .string text, u, .int .u8 (pkind : Int), .int .u8 (level : Int), .int .u32 (next : Int)] 36)) W) => (⟨(BX.out W t).2.2.1, (BX.out W t).2.2.2.1, (BX.out W t).2.2.2.2.1, CC.out W (X1.out.later t), RC.out W t⟩ :
    W.cell? ⟨w.heap.size, 2, none⟩ = some (.int .i64 (k : Int)) ∧ W.cell? ⟨w.heap.size, 3, none⟩ = some (.int .i64 (f : Int)) ∧ W.cell? ⟨w.heap.size, 4, none⟩ = some (.string text) ∧ W.cell? ⟨g, 5, none⟩ = some (.slice (some ⟨b, ro, none⟩) n c) ∧ W.cell? ⟨b, ro + k, none⟩ = some (.string s)))
  have YS := Lib.hid (fun (W : World) (Y : Gx W g p (.slice (some ⟨b, ro, none⟩) n c)) (z : ByteArray) => (show Calls Try.prog 133 #[.pointer (some ⟨g, 0, none⟩), .int .i64 (k : Int), .int .i64 ((k : Int) + 1), .slice (some ⟨W.heap.size, 0, none⟩) 1 1] (W.alloc (.cells #[.string z] 9)) _ from swap_yes (Y.later (below_new W _)) (made1 W z) (nilok_some _ _ _) (by omega) (by simp) (f := k) (t := k + 1) (by omega) (by omega)))
  have hI : (k : Int) < (n : Int) := by omega
  have hI2 : (k : Int) + 1 ≤ (n : Int) := by omega
  clear X hn hz T0 CC BX RC hkn hs hc hb
  by_cases hset : s.size < f + text.size
  all_goals
    first | rw [if_pos hset] | rw [if_neg hset]
    first | rw [if_neg (show ¬ (0 ≤ (f : Int) ∧ (f : Int) + text.size ≤ s.size) by omega), decide_eq_false (show ¬ (0 ≤ (f : Int) ∧ (f : Int) + text.size ≤ s.size) by omega)] at KS | rw [if_pos (show (0 ≤ (f : Int) ∧ (f : Int) + text.size ≤ s.size) by omega), decide_eq_true (show (0 ≤ (f : Int) ∧ (f : Int) + text.size ≤ s.size) by omega), Int.toNat_natCast] at KS
    clear hset
    try generalize patch s f text = z at *
    go_enter Try.func111, Try.ntmps111
    go_upto_region 1 with fail
    generalize w.alloc _ = W1 at *
    refine wp_region_noPanic ?_
    refine wp_region_held_drew (S := fun W => W.cell? ⟨w.heap.size, 2, none⟩ = some (.int .i64 (k : Int)) ∧ W.cell? ⟨g, 5, none⟩ = some (.slice (some ⟨b, ro, none⟩) n c)) (by kernel_rfl) (by exact ⟨T2, T5⟩) (fun hHeld => ?_)
    refine wpAnyH_take (i := 0) (v := ?_) rfl (by kernel_rfl) (by kernel_rfl) (by kernel_rfl) (fun _ _ _ h => h) (Or.inl ⟨by rfl, ?_⟩) hHeld ?_
    rotate_left
    · (intro W hSw; (try dsimp only at hSw); go_simp; (try with_reducible rfl))
    simp only [List.getElem_toArray, List.getElem_cons_zero, Act.put, List.setIfInBounds_toArray, List.set_cons_zero, List.set_cons_succ]
    refine wpAnyH_take (i := 1) (v := ?_) rfl (by kernel_rfl) (by kernel_rfl) (by kernel_rfl) (fun _ _ _ h => h) (Or.inl ⟨by rfl, ?_⟩) hHeld ?_
    rotate_left
    · (intro W hSw; (try dsimp only at hSw); go_simp; (try with_reducible rfl))
    simp only [List.getElem_toArray, List.getElem_cons_succ, List.getElem_cons_zero, Act.put, List.setIfInBounds_toArray, List.set_cons_zero, List.set_cons_succ]
    refine wpAnyH_take (i := 2) (v := ?_) rfl (by kernel_rfl) (by kernel_rfl) (by kernel_rfl) (fun _ _ _ h => h) (Or.inl ⟨by rfl, ?_⟩) hHeld ?_
    rotate_left
    · (intro W hSw; (try dsimp only at hSw); go_simp; (try with_reducible rfl))
    simp only [List.getElem_toArray, List.getElem_cons_succ, List.getElem_cons_zero, Act.put, List.setIfInBounds_toArray, List.set_cons_zero, List.set_cons_succ]
    refine wpAnyH_take (i := 3) (v := ?_) rfl (by kernel_rfl) (by kernel_rfl) (by kernel_rfl) (fun _ _ _ h => h) (Or.inl ⟨by rfl, ?_⟩) hHeld ?_
    rotate_left
    · (intro W hSw; (try dsimp only at hSw); go_simp; (try with_reducible rfl))
    simp only [List.getElem_toArray, List.getElem_cons_succ, List.getElem_cons_zero, Act.put, List.setIfInBounds_toArray, List.set_cons_zero, List.set_cons_succ]
    refine wpAnyH_take (i := 4) (v := ?_) rfl (by kernel_rfl) (by kernel_rfl) (by kernel_rfl) (fun _ _ _ h => h) (Or.inl ⟨by rfl, ?_⟩) hHeld ?_
    rotate_left
    · (intro W hSw; (try dsimp only at hSw); go_simp; (try with_reducible rfl))
    simp only [List.getElem_toArray, List.getElem_cons_succ, List.getElem_cons_zero, Act.put, List.setIfInBounds_toArray, List.set_cons_zero, List.set_cons_succ]
    refine wpAnyH_take (i := 5) (v := ?_) rfl (by kernel_rfl) (by kernel_rfl) (by kernel_rfl) (fun _ _ _ h => h) (Or.inl ⟨by rfl, ?_⟩) hHeld ?_
    rotate_left
    · (intro W hSw; (try dsimp only at hSw); go_simp; (try with_reducible rfl))
    simp only [List.getElem_toArray, List.getElem_cons_succ, List.getElem_cons_zero, Act.put, List.setIfInBounds_toArray, List.set_cons_zero, List.set_cons_succ]
    refine wpAnyH_take (i := 6) (v := ?_) rfl (by kernel_rfl) (by kernel_rfl) (by kernel_rfl) (fun _ _ _ h => h) (Or.inl ⟨by rfl, ?_⟩) hHeld ?_
    rotate_left
    · (intro W hSw; (try dsimp only at hSw); go_simp; (try with_reducible rfl))
    simp only [List.getElem_toArray, List.getElem_cons_succ, List.getElem_cons_zero, Act.put, List.setIfInBounds_toArray, List.set_cons_zero, List.set_cons_succ]
    refine wpAnyH_take (i := 7) (v := ?_) rfl (by kernel_rfl) (by kernel_rfl) (by kernel_rfl) (fun _ _ _ h => h) (Or.inl ⟨by rfl, ?_⟩) hHeld ?_
    rotate_left
    · (intro W hSw; (try dsimp only at hSw); go_simp; (try with_reducible rfl))
    simp only [List.getElem_toArray, List.getElem_cons_succ, List.getElem_cons_zero, Act.put, List.setIfInBounds_toArray, List.set_cons_zero, List.set_cons_succ]
    refine wpAnyH_done (by kernel_rfl) ?_ _
    refine NoPanic.normal ?_
    clear hHeld
    go_upto_region 3 with fail
    refine wp_region_noPanic ?_
    refine wp_region_held_drew (S := fun W => W.cell? ⟨w.heap.size, 2, none⟩ = some (.int .i64 (k : Int)) ∧ W.cell? ⟨w.heap.size, 3, none⟩ = some (.int .i64 (f : Int)) ∧ W.cell? ⟨w.heap.size, 4, none⟩ = some (.string text) ∧ W.cell? ⟨g, 5, none⟩ = some (.slice (some ⟨b, ro, none⟩) n c) ∧ W.cell? ⟨b, ro + k, none⟩ = some (.string s)) (by kernel_rfl) (by exact SS.out _ (Below.refl _ _).drew.drew) (fun hHeld => ?_)
    refine wpAnyH_take (i := 0) (v := ?_) rfl (by kernel_rfl) (by kernel_rfl) (by kernel_rfl) (fun _ _ _ h => h) (Or.inl ⟨by rfl, ?_⟩) hHeld ?_
    rotate_left
    · (intro W hSw; (try dsimp only at hSw); go_simp; (try with_reducible rfl))
    simp only [List.getElem_toArray, List.getElem_cons_zero, Act.put, List.setIfInBounds_toArray, List.set_cons_zero, List.set_cons_succ]
    refine wpAnyH_take (i := 1) (v := ?_) rfl (by kernel_rfl) (by kernel_rfl) (by kernel_rfl) (fun _ _ _ h => h) (Or.inl ⟨by rfl, ?_⟩) hHeld ?_
    rotate_left
    · (intro W hSw; (try dsimp only at hSw); go_simp; (try with_reducible rfl))
    simp only [List.getElem_toArray, List.getElem_cons_succ, List.getElem_cons_zero, Act.put, List.setIfInBounds_toArray, List.set_cons_zero, List.set_cons_succ]
    refine wpAnyH_take (i := 2) (v := ?_) rfl (by kernel_rfl) (by kernel_rfl) (by kernel_rfl) (fun _ _ _ h => h) (Or.inl ⟨by rfl, ?_⟩) hHeld ?_
    rotate_left
    · (intro W hSw; (try dsimp only at hSw); go_simp; (try with_reducible rfl))
    simp only [List.getElem_toArray, List.getElem_cons_succ, List.getElem_cons_zero, Act.put, List.setIfInBounds_toArray, List.set_cons_zero, List.set_cons_succ]
    refine wpAnyH_take (i := 3) (v := ?_) rfl (by kernel_rfl) (by kernel_rfl) (by kernel_rfl) (fun _ _ _ h => h) (Or.inl ⟨by rfl, ?_⟩) hHeld ?_
    rotate_left
    · (intro W hSw; (try dsimp only at hSw); go_simp; (try with_reducible rfl))
    simp only [List.getElem_toArray, List.getElem_cons_succ, List.getElem_cons_zero, Act.put, List.setIfInBounds_toArray, List.set_cons_zero, List.set_cons_succ]
    refine wpAnyH_take (i := 4) (v := ?_) rfl (by kernel_rfl) (by kernel_rfl) (by kernel_rfl) (fun _ _ _ h => h) (Or.inl ⟨by rfl, ?_⟩) hHeld ?_
    rotate_left
    · (intro W hSw; (try dsimp only at hSw); go_simp; (try with_reducible rfl))
    simp only [List.getElem_toArray, List.getElem_cons_succ, List.getElem_cons_zero, Act.put, List.setIfInBounds_toArray, List.set_cons_zero, List.set_cons_succ]
    refine wpAnyH_take (i := 5) (v := ?_) rfl (by kernel_rfl) (by kernel_rfl) (by kernel_rfl) (fun _ _ _ h => h) (Or.inl ⟨by rfl, ?_⟩) hHeld ?_
    rotate_left
    · (intro W hSw; (try dsimp only at hSw); go_simp; (try with_reducible rfl))
    simp only [List.getElem_toArray, List.getElem_cons_succ, List.getElem_cons_zero, Act.put, List.setIfInBounds_toArray, List.set_cons_zero, List.set_cons_succ]
    refine wpAnyH_take (i := 6) (v := ?_) rfl (by kernel_rfl) (by kernel_rfl) (by kernel_rfl) (fun _ _ _ h => h) (Or.inl ⟨by rfl, ?_⟩) hHeld ?_
    rotate_left
    · (intro W hSw; (try dsimp only at hSw); go_simp; (try with_reducible rfl))
    simp only [List.getElem_toArray, List.getElem_cons_succ, List.getElem_cons_zero, Act.put, List.setIfInBounds_toArray, List.set_cons_zero, List.set_cons_succ]
    refine wpAnyH_take (i := 7) (v := ?_) rfl (by kernel_rfl) (by kernel_rfl) (by kernel_rfl) (fun _ _ _ h => h) (Or.inl ⟨by rfl, ?_⟩) hHeld ?_
    rotate_left
    · (intro W hSw; (try dsimp only at hSw); go_simp; (try with_reducible rfl))
    simp only [List.getElem_toArray, List.getElem_cons_succ, List.getElem_cons_zero, Act.put, List.setIfInBounds_toArray, List.set_cons_zero, List.set_cons_succ]
    refine wpAnyH_take (i := 8) (v := ?_) rfl (by kernel_rfl) (by kernel_rfl) (by kernel_rfl) (fun _ _ _ h => h) (Or.inl ⟨by rfl, ?_⟩) hHeld ?_
    rotate_left
    · (intro W hSw; (try dsimp only at hSw); go_simp; (try with_reducible rfl))
    simp only [List.getElem_toArray, List.getElem_cons_succ, List.getElem_cons_zero, Act.put, List.setIfInBounds_toArray, List.set_cons_zero, List.set_cons_succ]
    refine wpAnyH_take (i := 9) (v := ?_) rfl (by kernel_rfl) (by kernel_rfl) (by kernel_rfl) (fun _ _ _ h => h) (Or.inl ⟨by rfl, ?_⟩) hHeld ?_
    rotate_left
    · (intro W hSw; (try dsimp only at hSw); go_simp; (try with_reducible rfl))
    simp only [List.getElem_toArray, List.getElem_cons_succ, List.getElem_cons_zero, Act.put, List.setIfInBounds_toArray, List.set_cons_zero, List.set_cons_succ]
    refine wpAnyH_take (i := 10) (v := ?_) rfl (by kernel_rfl) (by kernel_rfl) (by kernel_rfl) (fun _ _ _ h => h) (Or.inl ⟨by rfl, ?_⟩) hHeld ?_
    rotate_left
    · (intro W hSw; (try dsimp only at hSw); go_simp; (try with_reducible rfl))
    simp only [List.getElem_toArray, List.getElem_cons_succ, List.getElem_cons_zero, Act.put, List.setIfInBounds_toArray, List.set_cons_zero, List.set_cons_succ]
    refine wpAnyH_take (i := 11) (v := ?_) rfl (by kernel_rfl) (by kernel_rfl) (by kernel_rfl) (fun _ _ _ h => h) (Or.inl ⟨by rfl, ?_⟩) hHeld ?_
    rotate_left
    · (intro W hSw; (try dsimp only at hSw); go_simp; (try with_reducible rfl))
    simp only [List.getElem_toArray, List.getElem_cons_succ, List.getElem_cons_zero, Act.put, List.setIfInBounds_toArray, List.set_cons_zero, List.set_cons_succ]
    refine wpAnyH_ready (rs := [12]) (by kernel_rfl) (by simp) (AllReadyH.cons rfl (fun K2 hK => ?_) AllReadyH.nil)
    refine step_fn (by rfl) (.func 134) [.tmp 23, .tmp 25, .tmp 27] _ rfl 134 [] (by simp [Act.eval]) _ Try.func134 (by kernel_rfl) (by kernel_rfl) (KS.out _) (by simp [Act.eval]) ?_
    rintro e w4 ⟨rfl, b4⟩
    refine ⟨_, rfl, ?_⟩
    have D4 := Lib.hid ((Below.refl _ W1).drew.drew.trans b4)
    refine hK.out _ _ (SS.out _ D4.out) (fun hHeld => ?_)
    clear hK K2 b4
    simp only [List.getElem_toArray, List.getElem_cons_succ, List.getElem_cons_zero, Act.put, List.setIfInBounds_toArray, List.set_cons_zero, List.set_cons_succ]
    refine wpAnyH_take (i := 13) (v := ?_) rfl (by kernel_rfl) (by kernel_rfl) (by kernel_rfl) (fun _ _ _ h => h) (Or.inl ⟨by rfl, ?_⟩) hHeld ?_
    rotate_left
    · (intro W hSw; (try dsimp only at hSw); go_simp; (try with_reducible rfl))
    simp only [List.getElem_toArray, List.getElem_cons_succ, List.getElem_cons_zero, Act.put, List.setIfInBounds_toArray, List.set_cons_zero, List.set_cons_succ]
    refine wpAnyH_take (i := 14) (v := ?_) rfl (by kernel_rfl) (by kernel_rfl) (by kernel_rfl) (fun _ _ _ h => h) (Or.inl ⟨by rfl, ?_⟩) hHeld ?_
    rotate_left
    · (intro W hSw; (try dsimp only at hSw); go_simp; (try with_reducible rfl))
    simp only [List.getElem_toArray, List.getElem_cons_succ, List.getElem_cons_zero, Act.put, List.setIfInBounds_toArray, List.set_cons_zero, List.set_cons_succ]
    refine wpAnyH_take (i := 15) (v := ?_) rfl (by kernel_rfl) (by kernel_rfl) (by kernel_rfl) (fun _ _ _ h => h) (Or.inl ⟨by rfl, ?_⟩) hHeld ?_
    rotate_left
    · (intro W hSw; (try dsimp only at hSw); go_simp; (try with_reducible rfl))
    simp only [List.getElem_toArray, List.getElem_cons_succ, List.getElem_cons_zero, Act.put, List.setIfInBounds_toArray, List.set_cons_zero, List.set_cons_succ]
    refine wpAnyH_take (i := 16) (v := ?_) rfl (by kernel_rfl) (by kernel_rfl) (by kernel_rfl) (fun _ _ _ h => h) (Or.inl ⟨by rfl, ?_⟩) hHeld ?_
    rotate_left
    · (intro W hSw; (try dsimp only at hSw); go_simp; (try with_reducible rfl))
    simp only [List.getElem_toArray, List.getElem_cons_succ, List.getElem_cons_zero, Act.put, List.setIfInBounds_toArray, List.set_cons_zero, List.set_cons_succ]
    refine wpAnyH_take (i := 17) (v := ?_) rfl (by kernel_rfl) (by kernel_rfl) (by kernel_rfl) (fun _ _ _ h => h) (Or.inl ⟨by rfl, ?_⟩) hHeld ?_
    rotate_left
    · (intro W hSw; (try dsimp only at hSw); go_simp; (try with_reducible rfl))
    simp only [List.getElem_toArray, List.getElem_cons_succ, List.getElem_cons_zero, Act.put, List.setIfInBounds_toArray, List.set_cons_zero, List.set_cons_succ]
    refine wpAnyH_done (by kernel_rfl) ?_ _
    refine NoPanic.normal ?_
    clear hHeld T2 T3 T4 T5
    have B4 := Lib.hid (B1.out.trans (D4.out.mono B1.out.size))
    have X4 := Lib.hid (X1.out.later D4.out)
    obtain ⟨c2, c3, c4, c5, c6⟩ := SS.out w4 D4.out
    clear c3 c4 c5 c6
  · have TR := Lib.hid (fun W : World => Touch.refl (fun x => x = g) W)
    go_wp2_with fail
    go_ret
    exact NP.out _ _ B4.out (TR.out _)
  · have K := Lib.hid (YS.out w4 X4.out z)
    have B5 := Lib.hid (B4.out.trans ((below_new w4 (.cells #[.string z] 9)).mono B4.out.size))
    go_wp2_with fail
    refine K.out.mono ?_
    rintro e w6 ⟨rfl, ⟨v6, x6, s6⟩, t6⟩
    have T6 := Lib.hid t6
    have X6 := Lib.hid x6
    have S6 := Lib.hid s6
    clear t6 x6 s6 K
    go_wp2_with fail
    go_ret
    exact YP.out _ _ _ B5.out T6.out X6.out S6.out


end Go.Proofs.Ytfcibccipkokoaa.Op
