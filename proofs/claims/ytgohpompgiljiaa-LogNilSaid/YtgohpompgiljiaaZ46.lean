/-
  Walks: frames one behind the other, in the code.
-/
import Derived.RangeFuncBox
import Derived.RangeFuncFrom
import Derived.RangeFuncNested
import Derived.Test.YtgohpompgiljiaaZ42
import Derived.Test.YtgohpompgiljiaaZ12
namespace Go.Proofs.Ytgohpompgiljiaa.Frame
open Go.RowKit
open Go.Proofs.Ytgohpompgiljiaa.Slot (Tx SrcOf run_app)
attribute [local go_sem] Oper.semAt_some

theorem tx_own (W0 : World) (xs : List ByteArray) (v : Value) : Own (fun (_ : Unit) W => Tx W0 W v xs) := fun _ X Y row hs hg hr => by
  refine hs.far hg.size fun x hx => hg.block x (hs.lt x hx) fun e => ?_
  obtain ⟨o, ho, hc⟩ := hr x e.symm
  rcases hs.form with ⟨rfl, _⟩ | ⟨g, cap, cur, rfl, _, h3, _⟩
  · cases hx
  · obtain rfl : g = x := by simpa [Value.ownBlock] using hx
    rw [h3] at ho
    cases ho
    cases hc
theorem tx_set {W0 W : World} {v u : Value} {xs : List ByteArray} {B : Nat} {t : TypeId} (h : Tx W0 W v xs) (hb : Boxed W B t u) (ht : t ≠ 9) (u' : Value) : Tx W0 (W.setCell ⟨B, 0, none⟩ u') v xs :=
  ⟨h.own.kept (grownBy_setCell' W B u') (.inr (hb.not_row ht h.own).symm), by simpa using h.size⟩
theorem tx_grown {W0 W W' : World} {v : Value} {xs : List ByteArray} (h : Tx W0 W v xs) (hg : W.grownBy W' v.ownBlock) : KeepsOthers W W' := KeepsOthers.of_grownBy hg fun j o ej hj => by
  rcases h.form with ⟨rfl, _⟩ | ⟨g, cap, cur, rfl, _, h3, _⟩
  · cases ej
  · obtain rfl : g = j := by simpa [Value.ownBlock] using ej
    rw [h3] at hj; cases hj; rfl
theorem box_grown {W0 W W' : World} {v u : Value} {xs : List ByteArray} {B : Nat} {t : TypeId} (hb : Boxed W B t u) (ht : t ≠ 9) (h : Tx W0 W v xs) (hg : W.grownBy W' v.ownBlock) : Boxed W' B t u :=
  hb.kept hg (hb.not_row ht h.own)

section
variable {W0 w : World} {v : Value} {l : List ByteArray} {F : Fence} {n : Nat}
variable {ops : Array Oper} {rest : List Oper} {o : Oper} {a : Act} {Q : Exit → Act → World → Prop}
theorem wpListIn_app {x : Value} {news : List ByteArray} (hgd : o.guard = none) (s d : Operand) (ho : o.op = .call { callee := .builtin .append, args := #[s, d], argTypes := #[34, 34] }) (h : Tx W0 w v l) (hs : SrcOf w x news.length (news.map Value.string)) (hn : l.length + news.length ≤ 1000000)
    (h1 : a.eval s = v) (h2 : a.eval d = x) (hk : ∀ v' w', Tx W0 w' v' (l ++ news) → w.grownBy w' v.ownBlock → wpListIn F n Try.prog ops Q rest (a.put o.dst v') w') : wpListIn F n Try.prog ops Q (o :: rest) a w := by
  refine wpListIn_plain hgd fun K hK' => ?_
  obtain ⟨v', w', hr, k1, k2⟩ := run_app (ty := o.type) h hs hn
  unfold Oper.wpIn
  refine ⟨?_, ?_⟩
  · simp [Oper.about, ho, resolve, Target.leads, Sem.run_pure]
  · rw [Oper.semAt_plain F _ _ (by rw [ho]; intro c hc'; cases hc')]
    simp [execOp, ho, resolve, invoke, builtin, h1, h2, hr, Result.andThen]
    exact hK' _ _ (hk v' w' k1 k2)
end

/-- what the call's own cells hold -/
structure Cells (w W : World) (xs : List ByteArray) (v : Value) (u e : Int) : Prop where
  l : Boxed W w.heap.size 34 v
  u : Boxed W (w.heap.size + 1) 3 (.int .i64 u)
  e : Boxed W (w.heap.size + 1 + 1) 39 (.int .i64 e)
  t : Tx w W v xs
theorem Cells.own {w A B : World} {row : Option Nat} {xs : List ByteArray} {v : Value} {u e : Int} (h : Cells w A xs v u e) (hg : A.grownBy B row) (hr : ∀ r, row = some r → ∃ o : Obj, A.heap[r]? = some o ∧ o.isCells = false) : Cells w B xs v u e :=
  ⟨boxed_own (β := Unit) _ _ (fun _ => _) () A B row h.l hg hr, boxed_own (β := Unit) _ _ (fun _ => _) () A B row h.u hg hr, boxed_own (β := Unit) _ _ (fun _ => _) () A B row h.e hg hr, tx_own w xs v () A B row h.t hg hr⟩
/-- the stores of a return -/
theorem Cells.leave {w W : World} {xs : List ByteArray} {v : Value} {u e : Int} (h : Cells w W xs v u e) (e' : Int) :
    Cells w (((W.setCell ⟨w.heap.size, 0, none⟩ v).setCell ⟨w.heap.size + 1, 0, none⟩ (.int .i64 u)).setCell ⟨w.heap.size + 1 + 1, 0, none⟩ (.int .i64 e')).drew xs v u e' := by
  have l1 := h.l.set v
  have u1 := h.u.other (B' := w.heap.size) (by omega) v
  have e1 := h.e.other (B' := w.heap.size) (by omega) v
  have t1 := tx_set h.t h.l (by decide) v
  have l2 := l1.other (B' := w.heap.size + 1) (by omega) (.int .i64 u)
  have u2 := u1.set (.int .i64 u)
  have e2 := e1.other (B' := w.heap.size + 1) (by omega) (.int .i64 u)
  have t2 := tx_set t1 u1 (by decide) (.int .i64 u)
  have l3 := l2.other (B' := w.heap.size + 1 + 1) (by omega) (.int .i64 e')
  have u3 := u2.other (B' := w.heap.size + 1 + 1) (by omega) (.int .i64 e')
  have e3 := e2.set (.int .i64 e')
  have t3 := tx_set t2 e2 (by decide) (.int .i64 e')
  exact ⟨l3, u3, e3, t3.later (Below.refl _ _).drew⟩
theorem keeps_leave (w W : World) (v : Value) (u e : Int) : KeepsOthers W (((W.setCell ⟨w.heap.size, 0, none⟩ v).setCell ⟨w.heap.size + 1, 0, none⟩ (.int .i64 u)).setCell ⟨w.heap.size + 1 + 1, 0, none⟩ (.int .i64 e)).drew :=
  (((KeepsOthers.setCell _ _ _).trans (KeepsOthers.setCell _ _ _)).trans (KeepsOthers.setCell _ _ _)).trans (KeepsOthers.drew _)
theorem below_leave {w W : World} (h : Below w.heap.size w W) (v : Value) (u e : Int) : Below w.heap.size w (((W.setCell ⟨w.heap.size, 0, none⟩ v).setCell ⟨w.heap.size + 1, 0, none⟩ (.int .i64 u)).setCell ⟨w.heap.size + 1 + 1, 0, none⟩ (.int .i64 e)).drew :=
  (((h.setCell (p := ⟨w.heap.size, 0, none⟩) (Nat.le_refl _) _).setCell (p := ⟨w.heap.size + 1, 0, none⟩) (by show w.heap.size ≤ w.heap.size + 1; omega) _).setCell (p := ⟨w.heap.size + 1 + 1, 0, none⟩) (by show w.heap.size ≤ w.heap.size + 1 + 1; omega) _).drew
/-- what the call hands back -/
theorem Cells.results {w W : World} {xs : List ByteArray} {v : Value} {u e : Int} (h : Cells w W xs v u e) {ad : Option Addr} {n cap : Nat} (hv : v = .slice ad n cap) (tmps : Array Value)
    (h4 : tmps.getD 4 undef = .pointer (some ⟨w.heap.size, 0, none⟩)) (h5 : tmps.getD 5 undef = .pointer (some ⟨w.heap.size + 1, 0, none⟩)) (h6 : tmps.getD 6 undef = .pointer (some ⟨w.heap.size + 1 + 1, 0, none⟩)) :
    (Go.results Try.f65 tmps).run Try.prog W = .ok (.tuple #[v, .int .i64 u, .int .i64 e]) W := by
  subst hv
  have q4 := h.l.cell
  have q5 := h.u.cell
  have q6 := h.e.cell
  simp only [Array.getD_eq_getD_getElem?] at h4 h5 h6
  simp [Go.results, Try.f65, go_sem, h4, h5, h6, q4, q5, q6]

theorem finish {s : ByteArray} {lsn : Nat} {w W : World} {zs : List ByteArray} {ad : Option Addr} {cap T e D : Nat} (h : Cells w W zs (.slice ad zs.length cap) (T : Int) (e : Int)) (hb : Below w.heap.size w W) (hK : W.heap[D]? = some (.deferred (some []))) (hD : w.heap.size ≤ D) (hs : scn s lsn = (zs, T, e)) (tmps : Array Value)
    (h4 : tmps.getD 4 undef = .pointer (some ⟨w.heap.size, 0, none⟩)) (h5 : tmps.getD 5 undef = .pointer (some ⟨w.heap.size + 1, 0, none⟩)) (h6 : tmps.getD 6 undef = .pointer (some ⟨w.heap.size + 1 + 1, 0, none⟩)) :
    ∃ v, (Go.results Try.f65 tmps).run Try.prog (W.putObj D (.deferred none)) = .ok v (W.putObj D (.deferred none)) ∧ ScnP s lsn w (.returned v) (W.putObj D (.deferred none)) := by
  have hg := grownBy_putObj' W D (.deferred none)
  have h2 := h.own hg (fun r er => by cases er; exact ⟨_, hK, rfl⟩)
  exact ⟨_, h2.results rfl tmps h4 h5 h6, ScnP.mk hs h2.t (hb.grown hg hb.size (fun k er => by cases er; exact hD))⟩

/-- between two rounds -/
def Mid (w : World) (pre : List (ByteArray × Nat)) (W : World) : Prop := ∃ (xs : List ByteArray) (v : Value), pre = xs.map fine ∧ Cells w W (xs.map clip) v (tot (xs.map clip) : Int) 0
/-- a round has returned -/
def Out (w : World) (c : Code) (pre : List (ByteArray × Nat)) (W : World) : Prop := c = .ret ∧ ∃ (xs : List ByteArray) (v : Value) (d : ByteArray) (e : Nat), e ≠ 0 ∧ pre = xs.map fine ++ [(d, e)] ∧ Cells w W (xs.map clip) v (tot (xs.map clip) : Int) (e : Int)
theorem mid_own (w : World) : Own (Mid w) := fun _ _ _ _ ⟨xs, v, h1, h2⟩ hg hr => ⟨xs, v, h1, h2.own hg hr⟩
theorem out_own (w : World) (c : Code) : Own (Out w c) := fun _ _ _ _ ⟨h0, xs, v, d, e, h1, h2, h3⟩ hg hr => ⟨h0, xs, v, d, e, h1, h2, h3.own hg hr⟩

set_option maxRecDepth 100000 in
set_option maxHeartbeats 4000000 in
theorem fscan_any (s : ByteArray) (lsn : Nat) (w : World) (hl : lsn + s.size < 18446744073709551616) (hs : s.size ≤ 100000) :
    Calls Try.prog 65 #[.string s, .int .u64 (lsn : Int)] w (ScnP s lsn w) := by
  refine (callsIn_wide (n := 6)).1 ?_
  refine callsIn_of_wp_marks Try.func65 rfl trivial ?_ rfl
  simp only [Try.ntmps65, List.size_toArray, List.length_cons, List.length_nil, Nat.reduceAdd, Nat.reduceSub, Array.replicate_succ, Array.replicate_zero, List.push_toArray, List.append_toArray, List.nil_append, List.cons_append]
  have hmix : Try.prog.follows Departure.mixedOrders = true := by kernel_rfl
  gi_wp2_with fail
  refine ⟨trivial, (callsIn_wide.2 (frames_any s lsn _)).mono ?_⟩
  rintro e w1 ⟨rfl, rfl⟩
  gi_wp2_with fail
  obtain ⟨W0, hW0⟩ : ∃ W0, W0 = ((w.alloc (.cells #[.slice none 0 0] 34)).alloc (.cells #[.int .i64 0] 3)).alloc (.cells #[.int .i64 0] 39) := ⟨_, rfl⟩
  have c0 : Cells w W0 [] (.slice none 0 0) 0 0 := by
    have l1 := Boxed.new w 34 (.slice none 0 0)
    have l2 := Boxed.new (w.alloc (.cells #[.slice none 0 0] 34)) 3 (.int .i64 0)
    have l3 := Boxed.new ((w.alloc (.cells #[.slice none 0 0] 34)).alloc (.cells #[.int .i64 0] 3)) 39 (.int .i64 0)
    simp only [World.size_alloc] at l2 l3
    rw [hW0]
    exact ⟨(l1.alloc _).alloc _, l2.alloc _, l3, Tx.nil w (by simp; omega)⟩
  have z0 : W0.heap.size = w.heap.size + 3 := by rw [hW0]; simp
  have B0 : Below w.heap.size w W0 := by rw [hW0]; exact (((Below.refl _ w).alloc (Nat.le_refl _) _).alloc (by simp) _).alloc (by simp; omega) _
  rw [← hW0]
  have c1 := (Boxed.new W0 9 (.string s)).alloc (.cells #[.int .u64 (lsn : Int)] 27)
  have c2 := Boxed.new (W0.alloc (.cells #[.string s] 9)) 27 (.int .u64 (lsn : Int))
  simp only [World.size_alloc, z0] at c1 c2
  have B1 : Below w.heap.size w ((W0.alloc (.cells #[.string s] 9)).alloc (.cells #[.int .u64 (lsn : Int)] 27)) := (B0.alloc (by omega) _).alloc (by simp; omega) _
  have k0 : Cells w ((W0.alloc (.cells #[.string s] 9)).alloc (.cells #[.int .u64 (lsn : Int)] 27)) [] (.slice none 0 0) 0 0 := (c0.own (World.grownBy_alloc W0 _ none) (fun r e => by cases e)).own (World.grownBy_alloc _ _ none) (fun r e => by cases e)
  clear hW0 c0 B0
  refine wpIn_rangeFunc_ownF rfl (by decide) (gf := 76) (lb := #[.pointer (some ⟨w.heap.size + 1 + 1 + 1, 0, none⟩), .pointer (some ⟨w.heap.size + 1 + 1 + 1 + 1, 0, none⟩)]) rfl trivial (enters_of Try.func76 (by kernel_rfl) rfl)
    (frames_stops 5 (by decide) (w.heap.size + 1 + 1 + 1) (w.heap.size + 1 + 1 + 1 + 1) s lsn hl hs _ c1.cell c2.cell) (fun _ _ => trivial) (fun _ _ _ _ _ _ _ _ => trivial) (Below.refl _ _) (fun _ => rfl)
    (fun pre W => Mid w pre W ∧ Below w.heap.size w W) (fun c pre W => Out w c pre W ∧ Below w.heap.size w W)
    (OwnFrom.and ((mid_own w).from _) (ownFrom_below (Nat.le_refl _) (by simp; omega))) (fun c => OwnFrom.and ((out_own w c).from _) (ownFrom_below (Nat.le_refl _) (by simp; omega)))
    ⟨⟨[], _, rfl, k0⟩, B1⟩
    (fun x => { tmps := #[.string s, .int .u64 (lsn : Int), undef, undef, .pointer (some ⟨w.heap.size, 0, none⟩), .pointer (some ⟨w.heap.size + 1, 0, none⟩), .pointer (some ⟨w.heap.size + 1 + 1, 0, none⟩), .string (clip x.1), .int .i64 (x.2 : Int), .string s, .int .u64 (lsn : Int), .func (.func 76) #[] #[.pointer (some ⟨w.heap.size + 1 + 1 + 1, 0, none⟩), .pointer (some ⟨w.heap.size + 1 + 1 + 1 + 1, 0, none⟩)], .string (clip x.1), .int .i64 (x.2 : Int), undef, undef, undef, undef, undef, undef, undef, undef, undef, undef, undef, undef, undef, undef, undef, undef], defers := [] }) ?assign ?body ?done ?stop
  case assign =>
    intro l x W K hK
    unfold encR
    gi_wp2_with fail
    exact hK
  case body =>
    rintro l pre ⟨X, E⟩ W ⟨⟨xs, v, rfl, hc⟩, hB⟩ hlen
    have hX := clip_le X
    obtain ⟨ys, hys⟩ : ∃ ys, ys = xs.map clip := ⟨_, rfl⟩
    obtain ⟨Y, hY⟩ : ∃ Y, Y = clip X := ⟨_, rfl⟩
    have YS := Lib.hid hys
    have hmap := Lib.hid (show (xs ++ [X]).map clip = ys ++ [Y] by rw [hys, hY]; simp)
    have hlen2 : ys.length ≤ 100000 := by rw [hys]; rw [List.length_map] at hlen ⊢; omega
    have htl := tot_le ys
    have HT := Lib.hid (tot_snoc ys Y)
    have hsz : szN Y.size ≤ 4110 := by unfold szN; split <;> omega
    have KZ := Lib.hid (fun W => fsize_any (Y.size : Int) W (by rw [hY]; omega))
    have hsi : sizeI (Y.size : Int) = (szN Y.size : Int) := by
      unfold sizeI szN
      by_cases h : 1 ≤ Y.size ∧ Y.size ≤ 4096
      · rw [if_pos h, if_pos (by omega)]; omega
      · rw [if_neg h, if_neg (by omega)]; rfl
    rw [hsi] at KZ
    rw [← hY] at hX
    rw [← hys] at hc
    obtain ⟨ad, cap, rfl⟩ := hc.t.shape
    dsimp only
    rw [← hY]
    clear hsi hY hys hlen
    generalize szN Y.size = Z at *
    obtain ⟨T, hT⟩ : ∃ T, T = tot ys := ⟨_, rfl⟩
    have TT := Lib.hid hT
    rw [← hT] at hc htl HT
    clear hT
    have HB := Lib.hid hB
    have HC := Lib.hid hc
    have a1 := hc.l.cell
    have a2 := hc.l.frozen
    have a3 := hc.u.cell
    have a4 := hc.u.frozen
    have a5 := hc.e.cell
    have a6 := hc.e.frozen
    clear hc hB
    by_cases he : E = 0
    · subst he
      have wz : IntKind.i64.wrap ((T : Int) + (Z : Int)) = (T : Int) + (Z : Int) := by rw [IntKind.wrap_i64]; omega
      have HTT := Lib.hid HT.out
      clear HT htl
      gi_wp2_with (gi_at_builtin; refine wpListIn_app (W0 := w) (news := [Y]) rfl _ _ rfl (HC.out.t.later (below_new _ _)) (one_src Y) (by simp; omega) rfl rfl ?_; intro v4 w4 t4 g4; obtain ⟨ad4, cap4, rfl⟩ := t4.shape; have m1 := box_grown (HC.out.l.alloc _) (by decide) (HC.out.t.later (below_new _ _)) g4; have m2 := box_grown (HC.out.u.alloc _) (by decide) (HC.out.t.later (below_new _ _)) g4; have m3 := box_grown (HC.out.e.alloc _) (by decide) (HC.out.t.later (below_new _ _)) g4; have n1 := m1.cell; have n2 := m1.frozen; have M1 := Lib.hid m1; have M2 := Lib.hid m2; have M3 := Lib.hid m3; have T4 := Lib.hid t4; have G4 := Lib.hid g4; clear m1 m2 m3 t4 g4)
      have t5 := T4.out
      rw [List.length_append, List.length_singleton] at t5
      have k4 : KeepsOthers W w4 := (KeepsOthers.alloc W _).trans (tx_grown (HC.out.t.later (below_new _ _)) G4.out)
      have b4 : Below w.heap.size w w4 := (HB.out.alloc HB.out.size _).grown G4.out (by have := HB.out.size; simp; omega) (fun k e => (HC.out.t.own.lt k e).1)
      have c4 : ∀ N : Int, Cells w ((w4.setCell ⟨w.heap.size, 0, none⟩ (.slice ad4 (ys.length + 1) cap4)).setCell ⟨w.heap.size + 1, 0, none⟩ (.int .i64 N)) (ys ++ [Y]) (.slice ad4 (ys.length + 1) cap4) N 0 := fun N =>
        ⟨(M1.out.set _).other (by omega) _, (M2.out.other (by omega) _).set _, (M3.out.other (by omega) _).other (by omega) _, tx_set (tx_set t5 M1.out (by decide) _) (M2.out.other (by omega) _) (by decide) _⟩
      have C4 := Lib.hid c4
      have K4 := Lib.hid (fun N : Value => (k4.trans (KeepsOthers.setCell w4 ⟨w.heap.size, 0, none⟩ (.slice ad4 (ys.length + 1) cap4))).trans (KeepsOthers.setCell _ ⟨w.heap.size + 1, 0, none⟩ N))
      have D4 := Lib.hid (fun N : Value => (b4.setCell (p := ⟨w.heap.size, 0, none⟩) (Nat.le_refl _) (.slice ad4 (ys.length + 1) cap4)).setCell (p := ⟨w.heap.size + 1, 0, none⟩) (by show w.heap.size ≤ w.heap.size + 1; omega) N)
      have p3 := (M2.out.other (B' := w.heap.size) (by omega) (.slice ad4 (ys.length + 1) cap4)).cell
      have p4 := (M2.out.other (B' := w.heap.size) (by omega) (.slice ad4 (ys.length + 1) cap4)).frozen
      clear t5 k4 b4 c4 T4 G4 M1 M2 M3 n1 n2 a1 a2 a3 a4 a5 a6 HC HB
      gi_region_with_o (refine ⟨trivial, ?_⟩; gi_at_call 50; refine (CallsIn.inRound l (callsIn_wide.2 (KZ.out _))).mono ?_; rintro e w5 ⟨rfl, rfl⟩)
      all_goals go_simp
      all_goals gi_wp2_with fail
      all_goals exact ⟨(K4.out _).trans (KeepsOthers.drew _), trivial, ⟨xs ++ [X], _, by rw [List.map_append]; rfl, by
        have := C4.out ((T : Int) + (Z : Int))
        rw [hmap.out, HTT.out, Int.natCast_add]
        exact ⟨this.l, this.u, this.e, this.t.later (Below.refl _ _).drew⟩⟩, (D4.out _).drew⟩
    · have f1 : ((E : Int) == 0) = false := by rw [beq_eq_false_iff_ne]; omega
      have f2 : ((E : Int) != 0) = true := by rw [bne, f1]; rfl
      clear KZ
      gi_wp2_with fail
      gi_region_with_o fail
      all_goals gi_wp2_with fail
      all_goals exact ⟨keeps_leave w W _ _ _, ⟨rfl, xs, _, X, E, he, rfl, by rw [← YS.out, ← TT.out]; exact HC.out.leave _⟩, below_leave HB.out _ _ _⟩
  case done =>
    rintro D ys W hD hS ⟨⟨xs, v, rfl, hc⟩, hB⟩ hK
    have hsc := hS.fine
    obtain ⟨ad, cap, rfl⟩ := hc.t.shape
    generalize xs.map clip = zs at *
    generalize hT : tot zs = T at *
    have HB := Lib.hid hB
    have HC := Lib.hid hc
    have HK := Lib.hid hK
    have a1 := hc.l.cell
    have a2 := hc.l.frozen
    have a3 := hc.u.cell
    have a4 := hc.u.frozen
    have a5 := hc.e.cell
    have a6 := hc.e.frozen
    have hD2 : w.heap.size + 1 + 1 < D := by simp [z0] at hD; omega
    clear hc hB hK hS k0 c1 c2 B1
    gi_wp2_with fail
    gi_region
    gi_wp2_with fail
    have hK2 : ((((W.setCell ⟨w.heap.size, 0, none⟩ (.slice ad zs.length cap)).setCell ⟨w.heap.size + 1, 0, none⟩ (.int .i64 (T : Int))).setCell ⟨w.heap.size + 1 + 1, 0, none⟩ (.int .i64 0)).drew).heap[D]? = some (.deferred (some [])) := (keeps_leave w W _ _ _).same D _ HK.out rfl
    refine ⟨by simp, .inl ⟨_, _, rfl, run_takeDeferred hK2, ?_⟩⟩
    exact finish (HC.out.leave 0) (below_leave HB.out _ _ _) hK2 (by omega) hsc _ rfl rfl rfl
  case stop =>
    rintro D c ys W hD hP ⟨⟨rfl, xs, v, d, e, he, rfl, hc⟩, hB⟩ hK
    have hsc := hP.at he
    obtain ⟨ad, cap, rfl⟩ := hc.t.shape
    generalize xs.map clip = zs at *
    generalize hT : tot zs = T at *
    have HB := Lib.hid hB
    have HC := Lib.hid hc
    have HK := Lib.hid hK
    have hD2 : w.heap.size + 1 + 1 < D := by simp [z0] at hD; omega
    clear hc hB hK hP k0 c1 c2 B1
    gi_wp2_with fail
    refine ⟨by simp, .inl ⟨_, _, rfl, run_takeDeferred HK.out, ?_⟩⟩
    exact finish HC.out HB.out HK.out (by omega) hsc _ rfl rfl rfl

end Go.Proofs.Ytgohpompgiljiaa.Frame
