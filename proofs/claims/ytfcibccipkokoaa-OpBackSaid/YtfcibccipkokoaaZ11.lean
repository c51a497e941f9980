/-
  Walks: an op that is read (the document): any kind.
  Walks: a list of ops that is read (the document): what is kept meanwhile.
  Walks: a list of ops that is read (the document).
  What the code's ops hand back.
  Walks: has an op only what its kind has; may it be.
  Walks: may an op be.
-/
import Derived.Test.YtfcibccipkokoaaZ24
import Derived.Test.YtfcibccipkokoaaZ25
import Derived.Test.YtfcibccipkokoaaZ26
import Derived.Test.YtfcibccipkokoaaZ3
import Derived.Test.YtfcibccipkokoaaZ8
namespace Go.Proofs.Ytfcibccipkokoaa.Op
open Go.RowKit
open Go.Proofs.Ytfcibccipkokoaa.By

end Go.Proofs.Ytfcibccipkokoaa.Op

namespace Go.Proofs.Ytfcibccipkokoaa.Op
open Go.RowKit
open Go.Proofs.Ytfcibccipkokoaa.Seq (strS Is Own)
open Go.Proofs.Ytfcibccipkokoaa.By

/-- what bytes are: a list, and the error -/
def decE (s : ByteArray) : Nat := if (decL s).isSome then 0 else 7
def decR (s : ByteArray) : List O := (decL s).getD []
def DecP (w : World) (s : ByteArray) : Ending → World → Prop := fun e w' => ∃ v, e = .returned (.tuple #[v, .int .i64 (decE s : Int)]) ∧ Ops w' v (decR s) ∧ Below w.heap.size w w'
theorem Ops.nil (w : World) : Ops w nilV [] := ⟨[], rfl, Is.nil w, fun x hx => by cases hx⟩
theorem DecP.bad {w w' : World} {s : ByteArray} (h : decL s = none) (b : Below w.heap.size w w') : DecP w s (.returned (.tuple #[nilV, .int .i64 7])) w' := by
  refine ⟨nilV, ?_, ?_, b⟩
  · unfold decE; rw [h]; rfl
  · unfold decR; rw [h]; exact Ops.nil w'
theorem DecP.ok {w w' : World} {s : ByteArray} {l : List O} {v : Value} (h : decL s = some l) (hv : Ops w' v l) (b : Below w.heap.size w w') : DecP w s (.returned (.tuple #[v, .int .i64 0])) w' := by
  refine ⟨v, ?_, ?_, b⟩
  · unfold decE; rw [h]; rfl
  · unfold decR; rw [h]; exact hv

theorem own_base {α : Type} {S : Seq.Shp Try.prog α} {W0 W1 w : World} {v : Value} {l : List α} (h : Own S W1 w v l) (hs : W0.heap.size ≤ W1.heap.size) : Own S W0 w v l := by
  refine ⟨⟨h.own.1, ?_⟩, Nat.le_trans hs h.size⟩
  rcases h.own.2 with ⟨h1, h2⟩ | ⟨g, cap, cur, h1, h2, h3⟩
  · exact .inl ⟨h1, h2⟩
  · exact .inr ⟨g, cap, cur, h1, Nat.le_trans hs h2, h3⟩
/-- an op whose rows were made behind block g -/
structure Fr (w wr : World) (g : Nat) (o : O) (u : Value) : Prop where
  i : In wr o u
  o : ∃ W1 : World, g < W1.heap.size ∧ w.heap.size ≤ W1.heap.size ∧ Own strS W1 wr u o.rows
section
variable {w wr w' : World} {g : Nat} {o : O} {u v : Value}
theorem Fr.own (F : Fr w wr g o u) {W1 : World} (h1 : g < W1.heap.size) (h2 : w.heap.size ≤ W1.heap.size) (h : Own strS W1 w' u o.rows) : Fr w w' g o u := ⟨⟨F.i.wf, F.i.a, F.i.f, F.i.text, h.is, F.i.len, F.i.each⟩, W1, h1, h2, h⟩
theorem Fr.later (F : Fr w wr g o u) (b : Below wr.heap.size wr w') : Fr w w' g o u := by
  obtain ⟨W1, h1, h2, h3⟩ := F.o
  exact F.own h1 h2 (h3.later b)
theorem Fr.touch (F : Fr w wr g o u) (U : Touch (fun x => x = g) wr w') : Fr w w' g o u := by
  obtain ⟨W1, h1, h2, h3⟩ := F.o
  exact F.own h1 h2 (h3.far U.size fun x hx => U.block x (h3.lt x hx).2 (by have := (h3.lt x hx).1; omega))
theorem Fr.grown (F : Fr w wr g o u) {q : List (O × Sl)} (k : Own opS w wr v q) (gw : wr.grownBy w' v.ownBlock) : Fr w w' g o u := by
  obtain ⟨W1, h1, h2, h3⟩ := F.o
  have e : strS.e ≠ opS.e := by decide
  exact F.own h1 h2 (h3.far gw.size fun x hx => gw.block x (h3.lt x hx).2 ((own_base h3 h2).apart k e x hx))
end
section
variable {w wr w' : World} {g n : Nat} {s : ByteArray} {r0 r r' : Rd} {xs : List O} {v v' : Value}
end
def mkSl (ad : Option Addr) (n cap : Nat) : Sl := ⟨.slice ad n cap, rfl⟩
end Go.Proofs.Ytfcibccipkokoaa.Op

namespace Go.Proofs.Ytfcibccipkokoaa.Op
open Go.RowKit
open Go.Proofs.Ytfcibccipkokoaa.Seq (strS Is Own one_src wpList_app)
open Go.Proofs.Ytfcibccipkokoaa.By
attribute [local go_sem ↓] Go.wp_at_zero Go.wp_at_succ

end Go.Proofs.Ytfcibccipkokoaa.Op

namespace Go.Proofs.Ytfcibccipkokoaa.Op
open Go.RowKit
open Go.Proofs.Ytfcibccipkokoaa.Seq (strS u32S Is Own)
open Go.Proofs.Ytfcibccipkokoaa.Page (Pg pgV used)
open Go.Proofs.Ytfcibccipkokoaa.By

/-- it lies in a block of texts; its capacity is one -/
structure Str (w : World) (v : Value) : Prop where
  own : ∀ b, v.ownBlock = some b → ∃ cs f, w.heap[b]? = some (.cells cs 9 f)
  cap : Page.CapOk v
/-- a page and a number, handed back: its rows are the call's own texts, or what came in -/
def PgOut (w : World) (vin : Value) (p : Pg) (e : Nat) : Ending → World → Prop := fun en w' => ∃ v, en = .returned (.tuple #[pgV p v, .int .i64 (e : Int)]) ∧ Page.Rows w' v p.rows ∧ (Str w' v ∨ v = vin) ∧ Below w.heap.size w w'
/-- whose pages, rising -/
def PsOf (l : List O) (ps : List Nat) : Prop := (∀ n, n ∈ ps ↔ ∃ o ∈ l, o.page = n) ∧ ps.Pairwise (· < ·)

end Go.Proofs.Ytfcibccipkokoaa.Op

namespace Go.Proofs.Ytfcibccipkokoaa.Op
open Go.RowKit
open Go.Proofs.Ytfcibccipkokoaa.Seq (strS Is)
open Go.Proofs.Ytfcibccipkokoaa.By
attribute [local go_sem ↓] Go.wp_at_zero Go.wp_at_succ

/-- wiped out: what is left is its kind and its page alone, just if it has only what its kind has -/
theorem strip_iff (B : Nat) (o : O) : (thru (cCar B) o ()).1 = { O.zero with kind := o.kind, page := o.page } ↔ only o = o := by
  have hr : (rowsC (cCar B) () o.rows).1 = [] := by
    unfold rowsC
    show (txts (cCar B) (fitTo 0 o.rows) ()).1 = []
    have e : fitTo 0 o.rows = [] := List.eq_nil_of_length_eq_zero (fitTo_len 0 _)
    rw [e]; rfl
  obtain ⟨kind, page, at', off, text, rows, pkind, level, next⟩ := o
  simp only at hr
  unfold thru only
  simp only [hr]
  have hc : ∀ n m, ((cCar B).num () n m) = (0, ()) := fun _ _ => rfl
  have ht : ∀ t, ((cCar B).txt () t) = (⟨#[]⟩, ()) := fun _ => rfl
  simp only [hc, ht, O.zero]
  repeat' split
  all_goals
    clear hr hc ht
    simp only [O.mk.injEq, true_and, and_true, Int.natCast_zero]
    grind
theorem strip_dec (B : Nat) (o : O) : decide ((thru (cCar B) o ()).1 = { O.zero with kind := o.kind, page := o.page }) = decide (only o = o) := by
  rw [Bool.eq_iff_iff, decide_eq_true_iff, decide_eq_true_iff]
  exact strip_iff B o
theorem fit_of {w : World} {o : O} {u : Value} (h : In w o u) (ha : 0 ≤ o.at' ∧ o.at' ≤ 488) (hf : 0 ≤ o.off ∧ o.off ≤ 488) (hr : o.rows.length ≤ 488) (ht : o.text.size + total o.rows ≤ 488) : Fit o :=
  ⟨h.wf, by omega, by omega, by omega, by omega, fun r hr => by have := total_le hr; omega⟩
theorem rk_of {w : World} {u : Value} {l : List ByteArray} (h : Is strS w u l) (w' : World) (t : Below w.heap.size w w') : Rk w.heap.size w' u l := by
  refine ⟨h.later t, fun a n c e => ?_⟩
  obtain ⟨a', cap, hv, h1, h2, hc⟩ := h
  rw [hv] at e
  simp only [Value.slice.injEq] at e
  obtain ⟨rfl, _, _⟩ := e
  rcases hc with h | ⟨x, o, he, hx, _⟩
  · exact .inr (.inl h)
  · simp only [Option.some.injEq] at he
    subst he
    exact .inl hx
theorem in_of {B : Nat} {w : World} {g : Nat} {o : O} {u : Value} (h : Pb B w g o u) : In w o u := by
  have f := h.fit
  exact ⟨f.wf, by have := f.a; omega, by have := f.f; omega, by have := f.text; omega, h.rows.is, by have := f.len; omega, fun r hr => by have := f.each r hr; omega⟩
theorem rm_c (B : Nat) (o : O) : Rm (cCar B) o () := ⟨trivial, trivial, trivial⟩
theorem in_kp {w : World} {o : O} (h : o.wf) : In w { O.zero with kind := o.kind, page := o.page } (.slice none 0 0) :=
  in_plain ⟨h.kind, h.page, by simp [O.zero], by simp [O.zero], by simp [O.zero]⟩ (by simp [O.zero]) (by simp [O.zero]) (Nat.zero_le _) rfl

set_option maxRecDepth 100000 in
set_option maxHeartbeats 2000000 in
theorem bare_any {w : World} {o : O} {u : Value} (h : In w o u) (hf : Fit o) : Calls Try.prog 58 #[oV o u] w fun e w' => e = .returned (.bool (decide (only o = o))) ∧ Below w.heap.size w w' := by
  obtain ⟨ad, c, hu⟩ := h.rows.shape
  obtain ⟨n, hn⟩ : ∃ n, n = o.rows.length := ⟨_, rfl⟩
  rw [← hn] at hu
  subst hu
  have T0 := Lib.hid (Bx.start w o (.slice ad n c))
  have X2 := Lib.hid (show Pb w.heap.size ((w.alloc (.cells (oC o (.slice ad n c)) 36)).alloc (.cells (oC o (.slice ad n c)) 72)) (w.heap.size + 1) o (.slice ad n c) from
    ⟨by have := heap_alloc_new (w.alloc (.cells (oC o (.slice ad n c)) 36)) (.cells (oC o (.slice ad n c)) 72); simpa using this, by omega, hf, rk_of h.rows _ (Page.below2 w _ _)⟩)
  have T2 := Lib.hid (T0.out.later (below_new _ (.cells (oC o (.slice ad n c)) 72)))
  have SD := Lib.hid (strip_dec w.heap.size o)
  have WF := Lib.hid h.wf
  obtain ⟨a0, a1, a2, a3, a4, a5, a6, a7, a8⟩ := T0.out.nine
  clear h hf hn
  unfold oV oC at *
  generalize decide (only o = o) = res at *
  go_enter Try.func58, Try.ntmps58
  go_upto_region 2 with fail
  clear a0 a1 a2 a3 a4 a5 a6 a7 a8 T0
  generalize hg : w.heap.size + 1 = g at *
  generalize (w.alloc _).alloc _ = W2 at *
  have K := Lib.hid (show Calls Try.prog 62 #[.pointer (some ⟨g, 0, none⟩), .iface 134 (.agg #[])] W2 fun e w' => e = .returned (.tuple #[]) ∧ True ∧ (∃ u', Pb w.heap.size w' g (thru (cCar w.heap.size) o ()).1 u') ∧ Only w.heap.size tall W2 w' from through_any (C := cCar w.heap.size) (cCar_ok _) (s := ()) (r := thru (cCar w.heap.size) o ()) trivial X2.out (thru_chain (cCar_ok _) (rm_c _ o)))
  obtain ⟨o2, ho2⟩ : ∃ o2, o2 = (thru (cCar w.heap.size) o ()).1 := ⟨_, rfl⟩
  rw [← ho2] at K SD
  clear ho2
  go_wp2_with fail
  refine K.out.mono ?_
  rintro e w3 ⟨rfl, _, ⟨u3, x3⟩, k3⟩
  obtain ⟨a3, c3, hu3⟩ := x3.rows.is.shape
  obtain ⟨m, hm⟩ : ∃ m, m = o2.rows.length := ⟨_, rfl⟩
  rw [← hm] at hu3
  subst hu3
  have B3 := Lib.hid (T2.out.below.trans (k3.below (Nat.le_trans (Nat.le_add_right _ 1) (T2.out.below.size |> fun h => by have := (Array.getElem?_eq_some_iff.1 X2.out.box).1; omega))))
  have T3 := Lib.hid (⟨k3.keep T2.out.box (by decide), B3.out⟩ : Bx w w3 w.heap.size o (.slice ad n c))
  have X3 := Lib.hid x3
  have SM := Lib.hid (csame_any (in_of x3) (in_kp (w := w3) WF.out))
  rw [SD.out] at SM
  obtain ⟨p0, p1, p2, p3, p4, p5, p6, p7, p8⟩ := X3.out.nine
  obtain ⟨q0, q1, q2, q3, q4, q5, q6, q7, q8⟩ := T3.out.nine
  unfold oV oC O.zero at SM
  clear x3 k3 K X2 T2 hm SD q2 q3 q4 q5 q6 q7 q8
  go_wp2_with fail
  refine SM.out.mono ?_
  rintro e w4 ⟨rfl, b4⟩
  have B4 := Lib.hid (B3.out.trans (b4.mono B3.out.size))
  go_wp2_with fail
  go_ret
  exact ⟨rfl, B4.out⟩

end Go.Proofs.Ytfcibccipkokoaa.Op

namespace Go.Proofs.Ytfcibccipkokoaa.Op
open Go.RowKit
open Go.Proofs.Ytfcibccipkokoaa.Seq (strS Is)
open Go.Proofs.Ytfcibccipkokoaa.By
attribute [local go_sem ↓] Go.wp_at_zero Go.wp_at_succ

set_option maxRecDepth 100000 in
set_option maxHeartbeats 4000000 in
theorem cmay_all {w : World} {o : O} {u : Value} (h : In w o u) : Calls Try.prog 30 #[oV o u] w fun e w' => e = .returned (.bool (decide (May o))) ∧ Below w.heap.size w w' := by
  have T0 := Lib.hid (Bx.start w o u)
  have H := Lib.hid (h.later T0.out.below)
  obtain ⟨pa, hpa⟩ : ∃ b, b = decide (0 ≤ o.at' ∧ o.at' ≤ 488) := ⟨_, rfl⟩
  obtain ⟨pb, hpb⟩ : ∃ b, b = decide (0 ≤ o.off ∧ o.off ≤ 488) := ⟨_, rfl⟩
  obtain ⟨pt, hpt⟩ : ∃ b, b = decide (o.rows.length ≤ 488 ∧ o.text.size + total o.rows ≤ 488) := ⟨_, rfl⟩
  have PA := Lib.hid (fun W => place_any o.at' W h.a)
  have PB := Lib.hid (fun W => place_any o.off W h.f)
  have PT := Lib.hid (texts_any H.out.rows h.text h.len h.each)
  rw [← hpa] at PA
  rw [← hpb] at PB
  rw [← hpt] at PT
  have HA := Lib.hid hpa; have HB := Lib.hid hpb; have HT := Lib.hid hpt
  have BB := Lib.hid T0.out.below
  obtain ⟨a0, a1, a2, a3, a4, a5, a6, a7, a8⟩ := T0.out.nine
  obtain ⟨ad, c, hu⟩ := h.rows.shape
  obtain ⟨n, hn⟩ : ∃ n, n = o.rows.length := ⟨_, rfl⟩
  rw [← hn] at hu
  subst hu
  clear h hpa hpb hpt hn
  obtain ⟨res, hres⟩ : ∃ b, b = decide (May o) := ⟨_, rfl⟩
  rw [← hres]
  have HR := Lib.hid hres
  clear hres
  unfold oV oC at *
  by_cases h1 : 1 ≤ o.kind ∧ o.kind ≤ 8 ∧ 1 ≤ o.page ∧ o.page ≤ 1024
  rotate_left
  · have NO := Lib.hid (show res = false by rw [HR.out, decide_eq_false_iff_not]; exact fun m => h1 ⟨m.k1, m.k8, m.p1, m.p2⟩)
    have hw : o.kind < 1 ∨ (¬ o.kind < 1 ∧ 8 < o.kind) ∨ (¬ o.kind < 1 ∧ ¬ 8 < o.kind ∧ o.page < 1) ∨ (¬ o.kind < 1 ∧ ¬ 8 < o.kind ∧ ¬ o.page < 1 ∧ 1024 < o.page) := by omega
    clear h1 T0 H PA PB PT HA HB HT HR
    go_enter Try.func30, Try.ntmps30
    rcases hw with g | ⟨g1, g⟩ | ⟨g1, g2, g⟩ | ⟨g1, g2, g3, g⟩
    all_goals
      go_wp2_with fail
      go_ret
      exact ⟨ret_bool NO.out.symm, BB.out⟩
  obtain ⟨q1, q2, q3, q4⟩ := h1
  cases pa
  · have NO := Lib.hid (show res = false by rw [HR.out, decide_eq_false_iff_not]; intro m; have := HA.out; rw [eq_comm, decide_eq_false_iff_not] at this; exact this ⟨m.a0, m.a1⟩)
    clear T0 H PB PT HA HB HT HR
    go_enter Try.func30, Try.ntmps30
    go_wp2_with (go_at_call 56; (with_reducible refine (PA.out _).mono ?_); rintro e w' ⟨rfl, rfl⟩)
    go_ret
    exact ⟨ret_bool NO.out.symm, BB.out⟩
  cases pb
  · have NO := Lib.hid (show res = false by rw [HR.out, decide_eq_false_iff_not]; intro m; have := HB.out; rw [eq_comm, decide_eq_false_iff_not] at this; exact this ⟨m.o0, m.o1⟩)
    clear T0 H PT HA HB HT HR
    go_enter Try.func30, Try.ntmps30
    go_wp2_with (go_at_call 56; first | ((with_reducible refine (PA.out _).mono ?_); rintro e w' ⟨rfl, rfl⟩) | ((with_reducible refine (PB.out _).mono ?_); rintro e w' ⟨rfl, rfl⟩))
    go_ret
    exact ⟨ret_bool NO.out.symm, BB.out⟩
  cases pt
  · have NO := Lib.hid (show res = false by rw [HR.out, decide_eq_false_iff_not]; intro m; have := HT.out; rw [eq_comm, decide_eq_false_iff_not] at this; exact this ⟨m.rl, m.tt⟩)
    clear T0 H HA HB HT HR
    go_enter Try.func30, Try.ntmps30
    go_wp2_with (first | (go_at_call 56; first | ((with_reducible refine (PA.out _).mono ?_); rintro e w' ⟨rfl, rfl⟩) | ((with_reducible refine (PB.out _).mono ?_); rintro e w' ⟨rfl, rfl⟩)) | (go_at_call 57; refine PT.out.mono ?_; rintro e w' ⟨rfl, rfl⟩))
    go_ret
    exact ⟨ret_bool NO.out.symm, BB.out⟩
  by_cases h2 : o.pkind ≤ 5 ∧ o.next ≤ 1024
  rotate_left
  · have NO := Lib.hid (show res = false by rw [HR.out, decide_eq_false_iff_not]; exact fun m => h2 ⟨m.pk, m.nx⟩)
    have hw : 5 < o.pkind ∨ (¬ 5 < o.pkind ∧ 1024 < o.next) := by omega
    clear h2 T0 H HA HB HT HR
    go_enter Try.func30, Try.ntmps30
    rcases hw with g | ⟨g1, g⟩
    all_goals
      go_wp2_with (first | (go_at_call 56; first | ((with_reducible refine (PA.out _).mono ?_); rintro e w' ⟨rfl, rfl⟩) | ((with_reducible refine (PB.out _).mono ?_); rintro e w' ⟨rfl, rfl⟩)) | (go_at_call 57; refine PT.out.mono ?_; rintro e w' ⟨rfl, rfl⟩))
      go_ret
      exact ⟨ret_bool NO.out.symm, BB.out⟩
  obtain ⟨r1, r2⟩ := h2
  have ta := of_decide_eq_true HA.out.symm
  have tb' := of_decide_eq_true HB.out.symm
  have tt := of_decide_eq_true HT.out.symm
  have BA := Lib.hid (bare_any H.out (fit_of H.out ta tb' tt.1 tt.2))
  obtain ⟨pc, hpc⟩ : ∃ b, b = decide (only o = o) := ⟨_, rfl⟩
  rw [← hpc] at BA
  have R := Lib.hid (show res = pc by
    rw [HR.out, hpc, Bool.eq_iff_iff, decide_eq_true_iff, decide_eq_true_iff]
    exact ⟨fun m => m.on, fun m => ⟨q1, q2, q3, q4, r2, r1, ta.1, ta.2, tb'.1, tb'.2, tt.1, tt.2, m⟩⟩)
  clear T0 H HA HB HT HR ta tb' tt hpc
  unfold oV oC at BA
  go_enter Try.func30, Try.ntmps30
  cases pc
  all_goals
    go_wp2_with (first | (go_at_call 56; first | ((with_reducible refine (PA.out _).mono ?_); rintro e w' ⟨rfl, rfl⟩) | ((with_reducible refine (PB.out _).mono ?_); rintro e w' ⟨rfl, rfl⟩)) | (go_at_call 57; refine PT.out.mono ?_; rintro e w' ⟨rfl, rfl⟩) | (go_at_call 58; refine BA.out.mono ?_; rintro e w' ⟨rfl, b⟩))
    go_ret
    exact ⟨ret_bool R.out.symm, BB.out.trans (b.mono BB.out.size)⟩

end Go.Proofs.Ytfcibccipkokoaa.Op
