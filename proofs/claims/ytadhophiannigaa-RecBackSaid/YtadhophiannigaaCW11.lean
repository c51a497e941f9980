/- Walks: tables are read. -/
import Derived.Test.YtadhophiannigaaCW10
import Derived.Test.YtadhophiannigaaCW9
import Derived.Test.YtadhophiannigaaST
namespace Go.Proofs.Ytadhophiannigaa.Rec
open Go.RowKit
attribute [local go_sem ↓] Go.wp_at_zero Go.wp_at_succ

/-- tables that are being read -/
structure Ld (W0 W1 w : World) (q p h k : Nat) (s : ByteArray) (t : Nat) (b : Bool) (g r0 : Nat) (m : Rc) (d u : Value) : Prop where
  st : St W0 w q p h k s t b
  box : w.heap[g]? = some (.cells (tabC m d u) 30 (0, 0))
  res : w.heap[r0]? = some (.cells (tabC Rc.zero (.slice none 0 0) (.slice none 0 0)) 30 (0, 0))
  od : OwnDi W1 w d m.dirty
  oa : OwnAc W1 w u m.txns
  touch : Touch (Pl p h) W1 w
  ne : r0 ≠ g
  hg : W1.heap.size ≤ g
  hr : W1.heap.size ≤ r0
  stx : ∀ x, W1.heap.size ≤ x → x ≠ q ∧ x ≠ p ∧ x ≠ h ∧ x ≠ k ∧ W0.heap.size ≤ x
section
variable {W0 W1 w w' : World} {q p h k : Nat} {s : ByteArray} {t t' : Nat} {b b' : Bool} {g r0 : Nat} {m m' : Rc} {d u d' u' : Value}
theorem Ld.later (L : Ld W0 W1 w q p h k s t b g r0 m d u) (c : Below w.heap.size w w') : Ld W0 W1 w' q p h k s t b g r0 m d u :=
  have on : ∀ {x : Nat} {o : Obj}, w.heap[x]? = some o → w'.heap[x]? = some o := fun hx => (c.block _ (Array.getElem?_eq_some_iff.1 hx).1).trans hx
  ⟨L.st.later c, on L.box, on L.res, L.od.later c, L.oa.later c, L.touch.trans' (Touch.ofNew c), L.ne, L.hg, L.hr, L.stx⟩
theorem Ld.tk (L : Ld W0 W1 w q p h k s t b g r0 m d u) (T : Tk W0 w w' q p h k s t' b') : Ld W0 W1 w' q p h k s t' b' g r0 m d u := by
  have hp : ∀ x, Pl p h x → x < W1.heap.size := fun x hx => by
    rcases Nat.lt_or_ge x W1.heap.size with h1 | h1
    · exact h1
    · have := L.stx x h1
      rcases hx with rfl | rfl
      · exact absurd rfl this.2.1
      · exact absurd rfl this.2.2.1
  have on : ∀ {x : Nat} {o : Obj}, w.heap[x]? = some o → W1.heap.size ≤ x → w'.heap[x]? = some o := fun hx hn => (T.touch.block _ (Array.getElem?_eq_some_iff.1 hx).1 (fun e => by have := hp _ e; omega)).trans hx
  exact ⟨T.st, on L.box L.hg, on L.res L.hr, L.od.far T.touch.size (fun x hx => T.touch.block x (L.od.lt x hx).2 (fun e => by have := hp _ e; have := (L.od.lt x hx).1; omega)), L.oa.far T.touch.size (fun x hx => T.touch.block x (L.oa.lt x hx).2 (fun e => by have := hp _ e; have := (L.oa.lt x hx).1; omega)), L.touch.trans' T.touch, L.ne, L.hg, L.hr, L.stx⟩
theorem Ld.cells (L : Ld W0 W1 w q p h k s t b g r0 m d u) : w.cell? ⟨g, 0, none⟩ = some d ∧ w.cell? ⟨g, 1, none⟩ = some u ∧ w.cell? ⟨g, 2, none⟩ = some (.int .u64 (m.ttx : Int)) ∧ w.cell? ⟨g, 3, none⟩ = some (.int .u64 (m.tnum : Int)) ∧ w.frozen? ⟨g, 0, none⟩ = false ∧ w.frozen? ⟨g, 1, none⟩ = false := by
  refine ⟨?_, ?_, ?_, ?_, frozen_of_row _ _ _ _ _ L.box, frozen_of_row _ _ _ _ _ L.box⟩ <;> (rw [cell_of_row _ _ _ _ _ _ L.box]; rfl)
/-- blocks that were made since are written -/
theorem Ld.wrote (L : Ld W0 W1 w q p h k s t b g r0 m d u) {F : Nat → Prop} (c : Touch F w w') (hF : ∀ x, F x → W1.heap.size ≤ x) : St W0 w' q p h k s t b ∧ Touch (Pl p h) W1 w' :=
  ⟨L.st.beside c fun x hx => L.stx x (hF x hx), L.touch.trans c fun x hx hf => absurd (hF x hf) (by omega)⟩
theorem Ld.appD (L : Ld W0 W1 w q p h k s t b g r0 m d u) (G : w.grownBy w' d.ownBlock) {l : List Di} (O : OwnDi W1 w' d' l) (hm : m' = { m with dirty := l }) : Ld W0 W1 (w'.setCell ⟨g, 0, none⟩ d') q p h k s t b g r0 m' d' u := by
  subst hm
  have n1 := fun x hx => L.od.ne L.box (by decide) x hx
  have n2 := fun x hx => L.od.ne L.res (by decide) x hx
  have hbox : w'.heap[g]? = some (.cells (tabC m d u) 30 (0, 0)) := (G.block g (Array.getElem?_eq_some_iff.1 L.box).1 (fun e => n1 g e.symm rfl)).trans L.box
  have hres : w'.heap[r0]? = some (.cells (tabC Rc.zero (.slice none 0 0) (.slice none 0 0)) 30 (0, 0)) := (G.block r0 (Array.getElem?_eq_some_iff.1 L.res).1 (fun e => n2 r0 e.symm rfl)).trans L.res
  have n3 : ∀ x, u.ownBlock = some x → some x ≠ d.ownBlock := fun x hx e => by
    rcases L.od.form with ⟨rfl, _⟩ | ⟨g', cap, cur, rfl, _, h3, _⟩
    · simp [Value.ownBlock] at e
    · simp [Value.ownBlock] at e
      subst e
      exact L.oa.ne h3 (by decide) _ hx rfl
  have c : Touch (fun x => W1.heap.size ≤ x) w w' := (Touch.refl _ w).grown G fun k hk => (L.od.lt k hk).1
  have c2 := c.setCell (x := ⟨g, 0, none⟩) L.hg d'
  obtain ⟨s1, s2⟩ := L.wrote c2 (fun x hx => hx)
  refine ⟨s1, by rw [heap_setCell_same w' g 0 _ _ _ hbox]; rfl, by rw [heap_setCell_other _ _ _ _ (show r0 ≠ g from L.ne)]; exact hres, O.part hbox (by decide) 0 d', OwnAc.part (L.oa.far G.size fun x hx => G.block x (L.oa.lt x hx).2 (n3 x hx)) hbox (by decide) 0 d', s2, L.ne, L.hg, L.hr, L.stx⟩
theorem Ld.appA (L : Ld W0 W1 w q p h k s t b g r0 m d u) (G : w.grownBy w' u.ownBlock) {l : List Ac} (O : OwnAc W1 w' u' l) (hm : m' = { m with txns := l }) : Ld W0 W1 (w'.setCell ⟨g, 1, none⟩ u') q p h k s t b g r0 m' d u' := by
  subst hm
  have n1 := fun x hx => L.oa.ne L.box (by decide) x hx
  have n2 := fun x hx => L.oa.ne L.res (by decide) x hx
  have hbox : w'.heap[g]? = some (.cells (tabC m d u) 30 (0, 0)) := (G.block g (Array.getElem?_eq_some_iff.1 L.box).1 (fun e => n1 g e.symm rfl)).trans L.box
  have hres : w'.heap[r0]? = some (.cells (tabC Rc.zero (.slice none 0 0) (.slice none 0 0)) 30 (0, 0)) := (G.block r0 (Array.getElem?_eq_some_iff.1 L.res).1 (fun e => n2 r0 e.symm rfl)).trans L.res
  have n3 : ∀ x, d.ownBlock = some x → some x ≠ u.ownBlock := fun x hx e => by
    rcases L.oa.form with ⟨rfl, _⟩ | ⟨g', cap, cur, rfl, _, h3, _⟩
    · simp [Value.ownBlock] at e
    · simp [Value.ownBlock] at e
      subst e
      exact L.od.ne h3 (by decide) _ hx rfl
  have c : Touch (fun x => W1.heap.size ≤ x) w w' := (Touch.refl _ w).grown G fun k hk => (L.oa.lt k hk).1
  have c2 := c.setCell (x := ⟨g, 1, none⟩) L.hg u'
  obtain ⟨s1, s2⟩ := L.wrote c2 (fun x hx => hx)
  refine ⟨s1, by rw [heap_setCell_same w' g 1 _ _ _ hbox]; rfl, by rw [heap_setCell_other _ _ _ _ (show r0 ≠ g from L.ne)]; exact hres, OwnDi.part (L.od.far G.size fun x hx => G.block x (L.od.lt x hx).2 (n3 x hx)) hbox (by decide) 1 u', O.part hbox (by decide) 1 u', s2, L.ne, L.hg, L.hr, L.stx⟩
theorem Ld.grownD (L : Ld W0 W1 w q p h k s t b g r0 m d u) (G : w.grownBy w' d.ownBlock) : w'.cell? ⟨g, 0, none⟩ = some d ∧ w'.frozen? ⟨g, 0, none⟩ = false := by
  have hbox : w'.heap[g]? = some (.cells (tabC m d u) 30 (0, 0)) := (G.block g (Array.getElem?_eq_some_iff.1 L.box).1 (fun e => L.od.ne L.box (by decide) g e.symm rfl)).trans L.box
  exact ⟨by rw [cell_of_row _ _ _ _ _ _ hbox]; rfl, frozen_of_row _ _ _ _ _ hbox⟩
theorem Ld.grownA (L : Ld W0 W1 w q p h k s t b g r0 m d u) (G : w.grownBy w' u.ownBlock) : w'.cell? ⟨g, 1, none⟩ = some u ∧ w'.frozen? ⟨g, 1, none⟩ = false := by
  have hbox : w'.heap[g]? = some (.cells (tabC m d u) 30 (0, 0)) := (G.block g (Array.getElem?_eq_some_iff.1 L.box).1 (fun e => L.oa.ne L.box (by decide) g e.symm rfl)).trans L.box
  exact ⟨by rw [cell_of_row _ _ _ _ _ _ hbox]; rfl, frozen_of_row _ _ _ _ _ hbox⟩
theorem Ld.start (S : St W0 w q p h k s t b) (hres : w.heap[r0]? = some (.cells (tabC Rc.zero (.slice none 0 0) (.slice none 0 0)) 30 (0, 0))) (T : Touch (Pl p h) W1 w) (hr : W1.heap.size ≤ r0) (N : ∀ x, W1.heap.size ≤ x → x ≠ q ∧ x ≠ p ∧ x ≠ h ∧ x ≠ k ∧ W0.heap.size ≤ x) (x y : Nat) :
    Ld W0 W1 (w.alloc (.cells (tabC { Rc.zero with ttx := x, tnum := y } (.slice none 0 0) (.slice none 0 0)) 30)) q p h k s t b w.heap.size r0 { Rc.zero with ttx := x, tnum := y } (.slice none 0 0) (.slice none 0 0) := by
  have c := below_new w (.cells (tabC { Rc.zero with ttx := x, tnum := y } (.slice none 0 0) (.slice none 0 0)) 30)
  have hl := (Array.getElem?_eq_some_iff.1 hres).1
  exact ⟨S.later c, heap_alloc_new _ _, (c.block _ hl).trans hres, OwnDi.nil W1 (Nat.le_trans T.size c.size), OwnAc.nil W1 (Nat.le_trans T.size c.size), T.trans' (Touch.ofNew c), by omega, T.size, hr, N⟩
end
theorem Touch.setRow {F : Nat → Prop} {w : World} {g : Nat} (hg : F g) (cs : Array Value) : Touch F w (w.setRow g cs) :=
  ⟨rfl, rfl, rfl, by simp, fun b _ hn => setRow_other _ _ _ _ (fun e => hn (e ▸ hg))⟩
/-- a block that no taking touches -/
theorem Tk.kept {W0 w w' : World} {q p h k : Nat} {s : ByteArray} {t : Nat} {b : Bool} (T : Tk W0 w w' q p h k s t b) {x : Nat} {o : Obj} (hx : w.heap[x]? = some o) (n1 : x ≠ p) (n2 : x ≠ h) : w'.heap[x]? = some o :=
  (T.touch.block x (Array.getElem?_eq_some_iff.1 hx).1 (by rintro (e | e) <;> contradiction)).trans hx
/-- what a reading of tables leaves -/
def TabP (W0 w : World) (q p h k : Nat) (s : ByteArray) (t : Nat) (b : Bool) (r : Rc) : Ending → World → Prop := fun e w' => ∃ d u, e = .returned (tabV r d u) ∧ OwnDi w w' d r.dirty ∧ OwnAc w w' u r.txns ∧ Tk W0 w w' q p h k s t b

set_option maxRecDepth 100000 in
set_option maxHeartbeats 4000000 in
theorem tabs_any {W0 w : World} {q p h k : Nat} {s : ByteArray} {t : Nat} {b : Bool} (S : St W0 w q p h k s t b) (hs : s.size ≤ 140737488351232) (ht : t ≤ s.size) :
    Calls Try.prog 44 #[numF k] w (TabP W0 w q p h k s (t6 s t) (b && tB s t) (tabOf s t)) := by
  have N1 := Lib.hid (fun (W : World) (t : Nat) (b : Bool) (S : St W0 W q p h k s t b) (ht : t ≤ s.size) => (show Calls Try.prog 42 #[.int .i64 1, .pointer (some ⟨k, 0, none⟩)] W fun e w' => e = .returned (.int .u64 (tkN s t 1 : Int)) ∧ Tk W0 W w' q p h k s (tkT s t 1) (b && tkB s t 1) from num_any S 1 hs ht (by decide) (by decide)))
  have N4 := Lib.hid (fun (W : World) (t : Nat) (b : Bool) (S : St W0 W q p h k s t b) (ht : t ≤ s.size) => (show Calls Try.prog 42 #[.int .i64 4, .pointer (some ⟨k, 0, none⟩)] W fun e w' => e = .returned (.int .u64 (tkN s t 4 : Int)) ∧ Tk W0 W w' q p h k s (tkT s t 4) (b && tkB s t 4) from num_any S 4 hs ht (by decide) (by decide)))
  have N8 := Lib.hid (fun (W : World) (t : Nat) (b : Bool) (S : St W0 W q p h k s t b) (ht : t ≤ s.size) => (show Calls Try.prog 42 #[.int .i64 8, .pointer (some ⟨k, 0, none⟩)] W fun e w' => e = .returned (.int .u64 (tkN s t 8 : Int)) ∧ Tk W0 W w' q p h k s (tkT s t 8) (b && tkB s t 8) from num_any S 8 hs ht (by decide) (by decide)))
  have LE := Lib.hid (t_le ht)
  have HT := Lib.hid ht
  have S0 := Lib.hid (S.later (below_new w (.cells (tabC Rc.zero (.slice none 0 0) (.slice none 0 0)) 30)))
  have HR := Lib.hid (heap_alloc_new w (.cells (tabC Rc.zero (.slice none 0 0) (.slice none 0 0)) 30))
  have TC := Lib.hid ((Touch.ofNew (below_new w (.cells (tabC Rc.zero (.slice none 0 0) (.slice none 0 0)) 30)) : Touch (Pl p h) w _))
  have NW := Lib.hid (show ∀ x, w.heap.size ≤ x → x ≠ q ∧ x ≠ p ∧ x ≠ h ∧ x ≠ k ∧ W0.heap.size ≤ x from fun x hx => by
    have l1 := (Array.getElem?_eq_some_iff.1 S.str).1
    have l2 := (Array.getElem?_eq_some_iff.1 S.pos).1
    have l3 := (Array.getElem?_eq_some_iff.1 S.whole).1
    have l4 := (Array.getElem?_eq_some_iff.1 S.take).1
    have l5 := S.below.size
    omega)
  have PO := Lib.hid (show ∀ e w', TabP W0 w q p h k s (t6 s t) (b && tB s t) (tabOf s t) e w' ↔ ∃ d u, e = .returned (tabV (tabOf s t) d u) ∧ OwnDi w w' d (tabOf s t).dirty ∧ OwnAc w w' u (tabOf s t).txns ∧ Tk W0 w w' q p h k s (t6 s t) (b && tB s t) from fun _ _ => Iff.rfl)
  clear S hs ht
  unfold tabC Rc.zero at S0 TC
  simp only at S0 TC
  unfold numF
  go_enter Try.func44, Try.ntmps44
  go_wp2_with fail
  have HRN := Lib.hid (NW.out w.heap.size (Nat.le_refl _))
  have HRL := Lib.hid (Nat.le_refl w.heap.size)
  unfold tabC Rc.zero at HR
  simp only at HR
  generalize hr0 : w.heap.size = r0 at HR HRN HRL ⊢
  generalize w.alloc _ = W1 at *
  refine (N8.out _ _ _ S0.out HT.out).mono ?_
  rintro e w2 ⟨rfl, T2⟩
  have S2 := Lib.hid T2.st
  have C2 := Lib.hid (TC.out.trans' T2.touch)
  have R2 := Lib.hid (T2.kept HR.out HRN.out.2.1 HRN.out.2.2.1)
  clear T2 S0 TC HR
  go_wp2_with fail
  refine (N8.out _ _ _ S2.out LE.out.1).mono ?_
  rintro e w3 ⟨rfl, T3⟩
  have S3 := Lib.hid T3.st
  have C3 := Lib.hid (C2.out.trans' T3.touch)
  have R3 := Lib.hid (T3.kept R2.out HRN.out.2.1 HRN.out.2.2.1)
  clear T3 S2 C2 R2
  generalize hx : tkN s t 8 = x at *
  generalize hy : tkN s (tkT s t 8) 8 = y at *
  have HX := Lib.hid hx
  have HY := Lib.hid hy
  clear hx hy
  go_wp2_with fail
  have L0 := Lib.hid (Ld.start (W1 := w) S3.out R3.out C3.out (by rw [hr0]; exact Nat.le_refl _) NW.out x y)
  unfold tabC Rc.zero at L0
  simp only at L0
  clear S3 R3 C3
  generalize hg : w3.heap.size = g at *
  generalize w3.alloc _ = W4 at *
  refine (N1.out _ _ _ L0.out.st LE.out.2.1).mono ?_
  rintro e w5 ⟨rfl, T5⟩
  have L1 : Hid (Ld W0 w w5 q p h k s (dT s (t3 s t) 0) ((b && tkB s t 8 && tkB s (t1 s t) 8 && tkB s (t2 s t) 1) && dB s (t3 s t) 0) g r0 { Rc.zero with ttx := x, tnum := y, dirty := dL s (t3 s t) 0 } (.slice none 0 0) (.slice none 0 0)) := Lib.hid (by rw [show dB s (t3 s t) 0 = true from rfl, Bool.and_true]; exact L0.out.tk T5)
  clear T5 L0
  generalize hn : tkN s (tkT s (tkT s t 8) 8) 1 = n at *
  have hn2 : n < 256 := by have := tkN_lt s (tkT s (tkT s t 8) 8) 1; omega
  have HN : Hid (tn s t = n) := Lib.hid hn
  clear hn
  obtain ⟨b3, hb3⟩ : ∃ b3, b3 = (b && tkB s t 8 && tkB s (t1 s t) 8 && tkB s (t2 s t) 1) := ⟨_, rfl⟩
  rw [← hb3] at L1
  have HB3 := Lib.hid hb3
  clear hb3
  have LT := Lib.hid (fun j => dT_le LE.out.2.2.1 j)
  have DS := Lib.hid (fun j => (show (b3 && dB s (t3 s t) (j + 1)) = (((b3 && dB s (t3 s t) j) && tkB s (dT s (t3 s t) j) 4) && tkB s (tkT s (dT s (t3 s t) j) 4) 8) by simp [dB, Bool.and_assoc]))
  have DL := Lib.hid (fun j => dL_len s (t3 s t) j)
  go_wp2_with fail
  go_loopw [11] (fun i wr => ∃ (j : Nat) (d : Value), j ≤ n ∧ i = .int .u64 (j : Int) ∧ Ld W0 w wr q p h k s (dT s (t3 s t) j) (b3 && dB s (t3 s t) j) g r0 { Rc.zero with ttx := x, tnum := y, dirty := dL s (t3 s t) j } d (.slice none 0 0)) (fun i _ => n - (intOf i).toNat)
  case atStart => exact ⟨0, _, by omega, rfl, L1.out⟩
  case round =>
    obtain ⟨j, d, hj, rfl, L2⟩ := hrel
    have L3 := Lib.hid L2
    clear L2 L1
    by_cases hlt : j < n
    · obtain ⟨ad, cap, e1⟩ := L3.out.od.shape
      have e2 := DL.out j
      simp only at e1
      rw [e2] at e1
      subst e1
      clear e2
      have L4 := Lib.hid (L3.out.later ((Below.refl _ _).drew))
      obtain ⟨c0, c1, c2, c3, f0, f1⟩ := L4.out.cells
      go_wp2_with fail
      obtain ⟨T0, hT0⟩ : ∃ T0, T0 = dT s (t3 s t) j := ⟨_, rfl⟩
      have hle := LT.out j
      have hDS := DS.out j
      have DT := Lib.hid (show dT s (t3 s t) (j + 1) = tkT s (tkT s T0 4) 8 by rw [hT0]; rfl)
      have DE := Lib.hid (show dL s (t3 s t) (j + 1) = dL s (t3 s t) j ++ [⟨tkN s T0 4, tkN s (tkT s T0 4) 8⟩] by rw [hT0]; rfl)
      rw [← hT0] at L4 hDS hle
      have NN4 := Lib.hid (fun W b0 (S : St W0 W q p h k s T0 b0) => N4.out W T0 b0 S hle)
      have NN8 := Lib.hid (fun W b0 (S : St W0 W q p h k s (tkT s T0 4) b0) => N8.out W _ b0 S (tkT_le 4 hle))
      have q4 : IntKind.u32.wrap (tkN s T0 4 : Int) = (tkN s T0 4 : Int) := by have := tkN_lt s T0 4; rw [IntKind.wrap_u32]; omega
      generalize tkN s T0 4 = v4 at *
      generalize tkN s (tkT s T0 4) 8 = v8 at *
      have DLN := Lib.hid (show (dL s (t3 s t) j).length + [(⟨v4, v8⟩ : Di)].length ≤ 1000000 by rw [DL.out j]; show j + 1 ≤ _; omega)
      have HDS := Lib.hid hDS
      clear hDS hle hT0 L3
      go_region_law (first | (refine step_fn rfl _ _ _ rfl 42 _ rfl _ Try.func42 (by kernel_rfl) (by kernel_rfl) (NN4.out _ _ L4.out.st) (by rfl) ?_; rintro e w5 ⟨rfl, T5⟩; refine ⟨_, rfl, ?_⟩; have L5 := L4.out.tk T5; clear c0 c1 c2 c3 f0 f1; obtain ⟨c0, c1, c2, c3, f0, f1⟩ := L5.cells) | (refine step_fn rfl _ _ _ rfl 42 _ rfl _ Try.func42 (by kernel_rfl) (by kernel_rfl) (NN8.out _ _ L5.st) (by rfl) ?_; rintro e w6 ⟨rfl, T6⟩; refine ⟨_, rfl, ?_⟩; have L6 := L5.tk T6; clear c0 c1 c2 c3 f0 f1; obtain ⟨c0, c1, c2, c3, f0, f1⟩ := L6.cells; have cb := (L6.later (below_new w6 (.cells #[.int .u32 (v4 : Int), .int .u64 (v8 : Int)] 55))).cells.1) | (refine step_appDi (W0 := w) (m := [⟨v4, v8⟩]) rfl _ _ rfl (L6.later (below_new _ _)).od (di_one_src _ ⟨v4, v8⟩) DLN.out rfl rfl ?_; intro v7 w7 o7 g7; have L7 := Lib.hid ((L6.later (below_new _ _)).appD g7 o7 rfl); obtain ⟨c7, f7⟩ := (L6.later (below_new _ _)).grownD g7; obtain ⟨ad7, n7, cap7, rfl⟩ := o7.shape3))
      all_goals
        have L8 : Hid (Ld W0 w _ q p h k s (dT s (t3 s t) (j + 1)) (b3 && dB s (t3 s t) (j + 1)) g r0 { Rc.zero with ttx := x, tnum := y, dirty := dL s (t3 s t) (j + 1) } _ (.slice none 0 0)) := Lib.hid (by rw [DT.out, DE.out, HDS.out]; exact L7.out)
        clear L4 L5 L6 L7 c0 c1 c2 c3 f0 f1 cb c7 f7 o7 g7 T5 T6 NN4 NN8
        go_wp2_with fail
        go_roundw
        case rel => exact ⟨j + 1, _, by omega, by go_num, L8.out⟩
        case measure => simp [intOf]; omega
    · obtain rfl : j = n := by omega
      have e4 : dT s (t3 s t) j = t4 s t := by rw [← HN.out]; rfl
      have D4 := Lib.hid (show dL s (t3 s t) j = dL s (t3 s t) (tn s t) by rw [HN.out])
      have B4 := Lib.hid (show dB s (t3 s t) j = dB s (t3 s t) (tn s t) by rw [HN.out])
      have e2 := DL.out j
      rw [e4, D4.out, B4.out] at L3
      rw [D4.out] at e2
      clear hlt hj DS LT DL D4 B4 e4
      go_wp2_with fail
      refine (N1.out _ _ _ L3.out.st LE.out.2.2.2.1).mono ?_
      rintro e w5 ⟨rfl, T5⟩
      have L1 : Hid (Ld W0 w w5 q p h k s (aT s (t5 s t) 0) ((b3 && dB s (t3 s t) (tn s t) && tkB s (t4 s t) 1) && aB s (t5 s t) 0) g r0 { Rc.zero with ttx := x, tnum := y, dirty := dL s (t3 s t) (tn s t), txns := aL s (t5 s t) 0 } d (.slice none 0 0)) := Lib.hid (by rw [show aB s (t5 s t) 0 = true from rfl, Bool.and_true]; exact L3.out.tk T5)
      clear T5 L3
      generalize hn : tkN s (t4 s t) 1 = n at *
      have hn3 : n < 256 := by have := tkN_lt s (t4 s t) 1; omega
      have HM : Hid (tm s t = n) := Lib.hid hn
      clear hn
      obtain ⟨b5, hb5⟩ : ∃ b5, b5 = (b3 && dB s (t3 s t) (tn s t) && tkB s (t4 s t) 1) := ⟨_, rfl⟩
      rw [← hb5] at L1
      have HB5 := Lib.hid hb5
      clear hb5
      obtain ⟨D, hD⟩ : ∃ D, D = dL s (t3 s t) (tn s t) := ⟨_, rfl⟩
      rw [← hD] at L1 e2
      have HD := Lib.hid hD
      clear hD
      have LT := Lib.hid (fun j => aT_le LE.out.2.2.2.2.1 j)
      have DS := Lib.hid (fun j => (show (b5 && aB s (t5 s t) (j + 1)) = (((((b5 && aB s (t5 s t) j) && tkB s (aT s (t5 s t) j) 8) && tkB s (tkT s (aT s (t5 s t) j) 8) 8) && tkB s (tkT s (tkT s (aT s (t5 s t) j) 8) 8) 8) && tkB s (tkT s (tkT s (tkT s (aT s (t5 s t) j) 8) 8) 8) 8) by simp [aB, Bool.and_assoc]))
      have DL := Lib.hid (fun j => aL_len s (t5 s t) j)
      go_wp2_with fail
      go_loopw [27] (fun i wr => ∃ (i' : Nat) (u : Value), i' ≤ n ∧ i = .int .u64 (i' : Int) ∧ Ld W0 w wr q p h k s (aT s (t5 s t) i') (b5 && aB s (t5 s t) i') g r0 { Rc.zero with ttx := x, tnum := y, dirty := D, txns := aL s (t5 s t) i' } d u) (fun i _ => n - (intOf i).toNat)
      case atStart => exact ⟨0, _, by omega, rfl, L1.out⟩
      case round =>
        obtain ⟨i, u, hi, rfl, L2⟩ := hrel
        have L3 := Lib.hid L2
        clear L2 L1
        by_cases hlt : i < n
        · obtain ⟨ad, cap, e1⟩ := L3.out.oa.shape
          have e2 := DL.out i
          simp only at e1
          rw [e2] at e1
          subst e1
          clear e2
          have L4 := Lib.hid (L3.out.later ((Below.refl _ _).drew))
          obtain ⟨c0, c1, c2, c3, f0, f1⟩ := L4.out.cells
          go_wp2_with fail
          obtain ⟨T0, hT0⟩ : ∃ T0, T0 = aT s (t5 s t) i := ⟨_, rfl⟩
          have hle := LT.out i
          have hDS := DS.out i
          have DT := Lib.hid (show aT s (t5 s t) (i + 1) = tkT s (tkT s (tkT s (tkT s T0 8) 8) 8) 8 by rw [hT0]; rfl)
          have DE := Lib.hid (show aL s (t5 s t) (i + 1) = aL s (t5 s t) i ++ [⟨tkN s T0 8, tkN s (tkT s T0 8) 8, tkN s (tkT s (tkT s T0 8) 8) 8, tkN s (tkT s (tkT s (tkT s T0 8) 8) 8) 8⟩] by rw [hT0]; rfl)
          rw [← hT0] at L4 hDS hle
          have M1 := Lib.hid (fun W b0 (S : St W0 W q p h k s T0 b0) => N8.out W T0 b0 S hle)
          have M2 := Lib.hid (fun W b0 (S : St W0 W q p h k s (tkT s T0 8) b0) => N8.out W _ b0 S (tkT_le 8 hle))
          have M3 := Lib.hid (fun W b0 (S : St W0 W q p h k s (tkT s (tkT s T0 8) 8) b0) => N8.out W _ b0 S (tkT_le 8 (tkT_le 8 hle)))
          have M4 := Lib.hid (fun W b0 (S : St W0 W q p h k s (tkT s (tkT s (tkT s T0 8) 8) 8) b0) => N8.out W _ b0 S (tkT_le 8 (tkT_le 8 (tkT_le 8 hle))))
          generalize tkN s T0 8 = v1 at *
          generalize tkN s (tkT s T0 8) 8 = v2 at *
          generalize tkN s (tkT s (tkT s T0 8) 8) 8 = v3 at *
          generalize tkN s (tkT s (tkT s (tkT s T0 8) 8) 8) 8 = v4 at *
          have DLN := Lib.hid (show (aL s (t5 s t) i).length + [(⟨v1, v2, v3, v4⟩ : Ac)].length ≤ 1000000 by rw [DL.out i]; show i + 1 ≤ _; omega)
          have HDS := Lib.hid hDS
          clear hDS hle hT0 L3
          go_region_law (first | (refine step_fn rfl _ _ _ rfl 42 _ rfl _ Try.func42 (by kernel_rfl) (by kernel_rfl) (M1.out _ _ L4.out.st) (by rfl) ?_; rintro e w5 ⟨rfl, T5⟩; refine ⟨_, rfl, ?_⟩; have L5 := L4.out.tk T5; clear c0 c1 c2 c3 f0 f1; obtain ⟨c0, c1, c2, c3, f0, f1⟩ := L5.cells) | (refine step_fn rfl _ _ _ rfl 42 _ rfl _ Try.func42 (by kernel_rfl) (by kernel_rfl) (M2.out _ _ L5.st) (by rfl) ?_; rintro e w6 ⟨rfl, T6⟩; refine ⟨_, rfl, ?_⟩; have L6 := L5.tk T6; clear c0 c1 c2 c3 f0 f1; obtain ⟨c0, c1, c2, c3, f0, f1⟩ := L6.cells) | (refine step_fn rfl _ _ _ rfl 42 _ rfl _ Try.func42 (by kernel_rfl) (by kernel_rfl) (M3.out _ _ L6.st) (by rfl) ?_; rintro e w7 ⟨rfl, T7⟩; refine ⟨_, rfl, ?_⟩; have L7 := L6.tk T7; clear c0 c1 c2 c3 f0 f1; obtain ⟨c0, c1, c2, c3, f0, f1⟩ := L7.cells) | (refine step_fn rfl _ _ _ rfl 42 _ rfl _ Try.func42 (by kernel_rfl) (by kernel_rfl) (M4.out _ _ L7.st) (by rfl) ?_; rintro e w8 ⟨rfl, T8⟩; refine ⟨_, rfl, ?_⟩; have L8 := L7.tk T8; clear c0 c1 c2 c3 f0 f1; obtain ⟨c0, c1, c2, c3, f0, f1⟩ := L8.cells; have cb := (L8.later (below_new w8 (.cells #[.int .u64 (v1 : Int), .int .u64 (v2 : Int), .int .u64 (v3 : Int), .int .u64 (v4 : Int)] 57))).cells.2.1) | (refine step_appAc (W0 := w) (m := [⟨v1, v2, v3, v4⟩]) rfl _ _ rfl (L8.later (below_new _ _)).oa (ac_one_src _ ⟨v1, v2, v3, v4⟩) DLN.out rfl rfl ?_; intro v9 w9 o9 g9; have L9 := Lib.hid ((L8.later (below_new _ _)).appA g9 o9 rfl); obtain ⟨c7, f7⟩ := (L8.later (below_new _ _)).grownA g9; obtain ⟨ad9, n9, cap9, rfl⟩ := o9.shape3))
          all_goals
            have LL : Hid (Ld W0 w _ q p h k s (aT s (t5 s t) (i + 1)) (b5 && aB s (t5 s t) (i + 1)) g r0 { Rc.zero with ttx := x, tnum := y, dirty := D, txns := aL s (t5 s t) (i + 1) } d _) := Lib.hid (by rw [DT.out, DE.out, HDS.out]; exact L9.out)
            clear L4 L5 L6 L7 L8 L9 c0 c1 c2 c3 f0 f1 cb c7 f7 o9 g9 T5 T6 T7 T8 M1 M2 M3 M4
            go_wp2_with fail
            go_roundw
            case rel => exact ⟨i + 1, _, by omega, by go_num, LL.out⟩
            case measure => simp [intOf]; omega
        · obtain rfl : i = n := by omega
          have e6 : aT s (t5 s t) i = t6 s t := by rw [← HM.out]; rfl
          have D6 := Lib.hid (show aL s (t5 s t) i = aL s (t5 s t) (tm s t) by rw [HM.out])
          have B6 := Lib.hid (show aB s (t5 s t) i = aB s (t5 s t) (tm s t) by rw [HM.out])
          have EM := Lib.hid (show ({ Rc.zero with ttx := x, tnum := y, dirty := D, txns := aL s (t5 s t) i } : Rc) = tabOf s t by rw [D6.out, HD.out, ← HX.out, ← HY.out]; rfl)
          have EB := Lib.hid (show (b5 && aB s (t5 s t) i) = (b && tB s t) by rw [B6.out, HB5.out, HB3.out]; simp [tB, Bool.and_assoc])
          have hx : x = (tabOf s t).ttx := by rw [← EM.out]
          have hy : y = (tabOf s t).tnum := by rw [← EM.out]
          rw [e6, EM.out, EB.out] at L3
          clear hlt hi DS LT DL D6 B6 EM EB e6 HX HY
          subst hx hy
          obtain ⟨ad, nn, cap, rfl⟩ := L3.out.oa.shape3
          obtain ⟨ad2, nn2, cap2, rfl⟩ := L3.out.od.shape3
          obtain ⟨c0, c1, c2, c3, f0, f1⟩ := L3.out.cells
          have HO := Lib.hid (L3.out.od.is.one)
          have HA := Lib.hid (L3.out.oa.is.one)
          generalize hm : tabOf s t = m at *
          go_wp2_with (refine wpList_store_row rfl 30 _ _ rfl r0 (tabC m (.slice ad2 nn2 cap2) (.slice ad nn cap)) rfl rfl 30 (tabC Rc.zero (.slice none 0 0) (.slice none 0 0)) L3.out.res info_tab rfl (tab_one _ HO.out HA.out) ?_)
          have I5 := Lib.hid (L3.out.od.setRow L3.out.res (by decide) (tabC m (.slice ad2 nn2 cap2) (.slice ad nn cap)))
          have I4 := Lib.hid (L3.out.oa.setRow L3.out.res (by decide) (tabC m (.slice ad2 nn2 cap2) (.slice ad nn cap)))
          obtain ⟨s1, s2⟩ := L3.out.wrote (Touch.setRow (F := fun x => x = r0) rfl (tabC m (.slice ad2 nn2 cap2) (.slice ad nn cap))) (fun x e => by rw [e]; exact L3.out.hr)
          have SS := Lib.hid (show Tk W0 w _ q p h k s (t6 s t) (b && tB s t) from ⟨s1, s2⟩)
          clear s1 s2
          exact bodyPost_ret (v := tabV m (.slice ad2 nn2 cap2) (.slice ad nn cap)) (results_one Try.results44 _ _ r0 (tabC m (.slice ad2 nn2 cap2) (.slice ad nn cap)) rfl (setRow_heap _ _ _ _ _ _ L3.out.res) Try.underlying30 info_tab) rfl ((PO.out _ _).2 ⟨_, _, rfl, I5.out, I4.out, SS.out⟩)

end Go.Proofs.Ytadhophiannigaa.Rec
