/-
  Walks: lists that were done to a page make the same page, done again.
-/
import Derived.Test.YticnbicnefnhbaaZ19
import Derived.Test.YticnbicnefnhbaaZ16
import Derived.Test.YticnbicnefnhbaaZ18
import Derived.Test.YticnbicnefnhbaaZ4
import Derived.Test.YticnbicnefnhbaaZ3
import Derived.Test.YticnbicnefnhbaaZ20
namespace Go.Proofs.Yticnbicnefnhbaa.Op
open Go.RowKit
open Go.Proofs.Yticnbicnefnhbaa.Seq (strS Is Own Shp one_src wpList_app)
open Go.Proofs.Yticnbicnefnhbaa.Page (Pg pgV used pgC)
open Go.Proofs.Yticnbicnefnhbaa.By
attribute [local go_sem ↓] Go.wp_at_zero Go.wp_at_succ

theorem ops_wf {w : World} {v : Value} {l : List O} (h : Ops w v l) : ∀ o ∈ l, o.wf := by
  obtain ⟨q, rfl, _, h3⟩ := h
  intro o ho
  obtain ⟨x, hx, rfl⟩ := List.mem_map.1 ho
  exact (h3 x hx).wf
/-- what the first loop keeps -/
structure R1 (w wr : World) (n : Nat) (vs : List Pg) (ds : List (List O)) (vv dv : Value) (i : Nat) : Prop where
  v : Vs vs ds
  vm : VsM w wr vv vs
  dm : DsM w wr dv ds
  le : ds.length ≤ i
  lt : i ≤ n
  b : Below w.heap.size w wr

theorem wrap10 (m : Nat) (h : m ≤ 12) : ((10 * (m + 1) : Nat) : Int) = IntKind.u64.wrap (IntKind.i64.wrap (10 * ((m : Int) + 1))) := by
  have a : IntKind.i64.wrap (10 * ((m : Int) + 1)) = 10 * ((m : Int) + 1) := by rw [IntKind.wrap_i64]; omega
  have b : IntKind.u64.wrap (10 * ((m : Int) + 1)) = 10 * ((m : Int) + 1) := by rw [IntKind.wrap_u64]; omega
  rw [a, b]
  omega
theorem wrap11 (m : Nat) (h : m ≤ 12) : ((10 * (m + 1) : Nat) : Int) = IntKind.u64.wrap (IntKind.i64.wrap (10 * IntKind.i64.wrap ((m : Int) + 1))) := by
  have a : IntKind.i64.wrap ((m : Int) + 1) = (m : Int) + 1 := by rw [IntKind.wrap_i64]; omega
  rw [a]
  exact wrap10 m h
theorem Vs.next {vs : List Pg} {ds : List (List O)} (h : Vs vs ds) {m : Nat} (hm : vs.length = m + 1) (h12 : m ≤ 12) {X q : Pg} {L : List O} {e : Nat} (hX : X = vs[m]'(by omega)) (hr : redo X (10 * (m + 1)) L = (q, e)) (he : e = 0) (hd : ¬ q.lsn = X.lsn) (hl : ∀ o ∈ L, o.wf) : Vs (vs ++ [q]) (ds ++ [L]) := by
  subst he
  refine h.more hl (by omega) (by omega) ?_ ?_
  · simp only [hm, Nat.add_sub_cancel]
    rw [← hX]
    exact hr
  · simp only [hm, Nat.add_sub_cancel]
    rw [← hX]
    exact hd
theorem DsM.put {w0 w : World} {v : Value} {ds : List (List O)} {L : List O} {ld : List Sl} {x : Sl} (o : Own lstS w0 w v (ld ++ [x])) (h1 : ld.length = ds.length) (h2 : (∀ i (hi : i < ld.length) (hj : i < ds.length), Ops w0 ld[i].1 ds[i]) ∧ ∀ L ∈ ds, L.length ≤ 1000000) (h3 : Ops w0 x.1 L) (h4 : L.length ≤ 1000000) : DsM w0 w v (ds ++ [L]) := by
  refine ⟨ld ++ [x], by simp [h1], o, fun i hi hj => ?_, fun M hM => ?_⟩
  · by_cases h : i < ld.length
    · rw [List.getElem_append_left h, List.getElem_append_left (show i < ds.length by omega)]
      exact h2.1 i h (by omega)
    · obtain rfl : i = ld.length := by rw [List.length_append, List.length_singleton] at hi; omega
      rw [List.getElem_append_right (Nat.le_refl _), List.getElem_append_right (by omega)]
      simp only [Nat.sub_self, h1, List.getElem_cons_zero]
      exact h3
  · rcases List.mem_append.1 hM with hM | hM
    · exact h2.2 M hM
    · rw [List.mem_singleton.1 hM]
      exact h4
/-- what the second loop keeps -/
structure R2 (w wr wq : World) (V : Pg) (u : Value) : Prop where
  box : PBx wq wr.heap.size V u
  rows : Rin w wq u V.rows
  below : Below wr.heap.size wr wq
theorem Vs.more_at {vs : List Pg} {ds : List (List O)} (h : Vs vs ds) {m j i : Nat} (hm : vs.length = m + 1) (hj : j ≤ m) (hi : i < ds.length) {X : Pg} (hX : vs[max j i]? = some X) : ∃ q, redo X (10 * (i + 1)) ds[i] = (q, 0) ∧ vs[max j (i + 1)]? = some q := by
  have hlen := h.len
  have := h.again (k := j) (i := i) (by omega) hi
  obtain ⟨h1, rfl⟩ := List.getElem?_eq_some_iff.1 hX
  exact ⟨_, this, List.getElem?_eq_getElem _⟩
/-- the first version -/
theorem first_vs {w w1 : World} {p : Pg} {ad : Option Addr} {c : Nat} (B1 : Below w.heap.size w w1) (_hgs : w.heap.size < w1.heap.size) (hp : Page.InPg w p (.slice ad p.rows.length c)) :
    VsM w ((w1.setCell ⟨w.heap.size, 3, none⟩ (.int .u64 1)).alloc (.cells #[.int .u8 (p.kind : Int), .int .u8 (p.level : Int), .int .u32 (p.id : Int), .int .u64 1, .int .u32 (p.next : Int), .slice ad p.rows.length c] 45)) (.slice (some ⟨w1.heap.size, 0, none⟩) 1 1) [{ p with lsn := 1 }] ∧
      Below w.heap.size w ((w1.setCell ⟨w.heap.size, 3, none⟩ (.int .u64 1)).alloc (.cells #[.int .u8 (p.kind : Int), .int .u8 (p.level : Int), .int .u32 (p.id : Int), .int .u64 1, .int .u32 (p.next : Int), .slice ad p.rows.length c] 45)) := by
  have b2 : Below w.heap.size w (w1.setCell ⟨w.heap.size, 3, none⟩ (.int .u64 1)) := B1.setCell (Nat.le_refl _) _
  have b3 := b2.trans ((below_new _ (.cells #[.int .u8 (p.kind : Int), .int .u8 (p.level : Int), .int .u32 (p.id : Int), .int .u64 1, .int .u32 (p.next : Int), .slice ad p.rows.length c] 45)).mono b2.size)
  refine ⟨⟨[({ p with lsn := 1 }, ⟨.slice ad p.rows.length c, rfl⟩)], rfl, ?_, ?_⟩, b3⟩
  · have := Own.made pgS w (w := w1.setCell ⟨w.heap.size, 3, none⟩ (.int .u64 1)) [({ p with lsn := 1 }, ⟨.slice ad p.rows.length c, rfl⟩)] b2.size (by simp)
    rw [World.size_setCell] at this
    exact this
  · intro x hx
    rw [List.mem_singleton.1 hx]
    exact (Rin.came hp.rows hp.cap).later b3

set_option maxRecDepth 100000 in
set_option maxHeartbeats 4000000 in
theorem redo_walk {w : World} {p : Pg} {u : Value} {ll : List (List O)} {vl : Value} {fr : Int} (hp : Page.InPg w p u) (hl : Opss w vl ll) (hf : 0 ≤ fr ∧ fr ≤ 255) :
    Calls Try.prog 6 #[pgV p u, vl, .int .u8 fr] w fun e w' => e = .returned (.bool true) ∧ Below w.heap.size w w' := by
  have X0 := Lib.hid (PBx.new w p u)
  have KH := Lib.hid (fun W (B : Below w.heap.size w W) => Page.heavy_any p (hp.rows.later B) hp.len hp.each)
  obtain ⟨ad, c, rfl, _⟩ := id hp.rows
  obtain ⟨adl, cl, rfl⟩ := hl.shape
  have HP := Lib.hid hp
  have HL := Lib.hid hl
  have B0 := Lib.hid (below_new w (.cells (pgC p (.slice ad p.rows.length c)) 45))
  obtain ⟨x0, x1, x2, x3, x4, x5⟩ := X0.out.six
  unfold pgV at *
  unfold pgC at *
  clear hp hl
  obtain ⟨n, hn⟩ : ∃ n, n = ll.length := ⟨_, rfl⟩
  have N := Lib.hid hn
  rw [← hn] at HL ⊢
  clear hn
  by_cases h1 : Page.heavyB p.rows = true
  · rw [h1] at KH
    clear h1
    go_enter Try.func6, Try.ntmps6
    go_wp2_with fail
    (with_reducible refine (KH.out _ B0.out).mono ?_)
    rintro e w1 ⟨rfl, b1⟩
    have B1 := Lib.hid (B0.out.trans (b1.mono B0.out.size))
    clear b1
    go_wp2_with (go_at_call 10; (with_reducible refine (alive_any _).mono ?_); rintro e w5 ⟨rfl, d5⟩)
    go_ret
    exact ⟨rfl, B1.out.trans (d5.mono B1.out.size)⟩
  have h2 : Page.heavyB p.rows = false := by simpa using h1
  have hu := (Page.light h2).1
  rw [h2] at KH
  clear h1 h2
  by_cases h4 : 12 < n
  · have h5 : (12 : Int) < (n : Int) := by omega
    go_enter Try.func6, Try.ntmps6
    go_wp2_with fail
    (with_reducible refine (KH.out _ B0.out).mono ?_)
    rintro e w1 ⟨rfl, b1⟩
    have B1 := Lib.hid (B0.out.trans (b1.mono B0.out.size))
    clear b1
    go_wp2_with (go_at_call 10; (with_reducible refine (alive_any _).mono ?_); rintro e w5 ⟨rfl, d5⟩)
    go_ret
    exact ⟨rfl, B1.out.trans (d5.mono B1.out.size)⟩
  go_enter Try.func6, Try.ntmps6
  go_wp2_with fail
  (with_reducible refine (KH.out _ B0.out).mono ?_)
  rintro e w1 ⟨rfl, b1⟩
  have X1 := Lib.hid (X0.out.later b1)
  have B1 := Lib.hid (B0.out.trans (b1.mono B0.out.size))
  clear b1 X0 B0 KH x0 x1 x2 x3 x4 x5
  have hgs : w.heap.size < w1.heap.size := (Array.getElem?_eq_some_iff.1 X1.out.box).1
  obtain ⟨x0, x1, x2, x3, x4, x5⟩ := X1.out.six
  have f3 : w1.frozen? ⟨w.heap.size, 3, none⟩ = false := frozen_of_row _ _ _ _ _ X1.out.box
  go_upto_region 5 with fail
  obtain ⟨S1, S2⟩ := first_vs B1.out hgs HP.out
  generalize World.alloc _ _ = W at *
  have S1 := Lib.hid S1
  have S2 := Lib.hid S2
  have GD : Gd p := ⟨HP.out.wf, by omega⟩
  have GD := Lib.hid GD
  clear x0 x1 x2 x3 x4 x5 f3
  go_wp2_with fail
  go_loopw [7, 8, 9] (fun vv dv i wr => ∃ (vs : List Pg) (ds : List (List O)) (k : Nat), i = .int .i64 k ∧ R1 w wr n vs ds vv dv k) (fun _ _ i _ => n - (intOf i).toNat)
  case atStart => exact ⟨_, [], 0, rfl, Vs.start GD.out, S1.out, ⟨[], rfl, Own.nil _ _ S2.out.size, (fun i hi => by simp at hi), (fun L hL => by simp at hL)⟩, Nat.zero_le _, Nat.zero_le _, S2.out⟩
  case round =>
    obtain ⟨vs, ds, k, rfl, hr⟩ := hrel
    obtain ⟨m, hm⟩ : ∃ m, vs.length = m + 1 := ⟨ds.length, hr.v.len⟩
    have hmk : m ≤ k := by have := hr.v.len; have := hr.le; omega
    have hkn : k ≤ n := hr.lt
    obtain ⟨adv, cv, rfl⟩ := hr.vm.shape
    obtain ⟨add, cd, rfl⟩ := hr.dm.shape
    have hmd : ds.length = m := by have := hr.v.len; omega
    have hm13 : m ≤ 12 := by omega
    rw [hmd, hm] at hr ⊢
    have R := Lib.hid hr
    have HM := Lib.hid hm
    have HD := Lib.hid hmd
    clear hr hm hmd
    by_cases hlt : k < n
    · obtain ⟨ul, bl, ol, rfl, hbl, ho, xw⟩ := HL.out.at (i := k) (by rw [← N.out]; exact hlt)
      obtain ⟨a1, c1, rfl⟩ := ho.shape
      have KH := Lib.hid (heavy_any (ho.later R.out.b))
      have HO := Lib.hid ho
      have XO := Lib.hid (fun W (B : Below w.heap.size w W) => (World.cell?_of_block (B.block bl hbl)).trans xw)
      have xo := XO.out _ R.out.b
      clear ho xw hbl
      by_cases hh : heavyO ll[k] = true
      · rw [hh] at KH
        clear hh
        go_wp2_with fail
        (with_reducible refine KH.out.mono ?_)
        rintro e w2 ⟨rfl, b2⟩
        have B2 := Lib.hid (R.out.b.trans (b2.mono R.out.b.size))
        clear b2
        go_wp2_with (go_at_call 10; (with_reducible refine (alive_any _).mono ?_); rintro e w5 ⟨rfl, d5⟩)
        go_ret
        exact ⟨rfl, B2.out.trans (d5.mono B2.out.size)⟩
      · have hh2 : heavyO ll[k] = false := by simpa using hh
        rw [hh2] at KH
        have HLN := Lib.hid (heavy_no hh2).1
        clear hh hh2
        go_wp2_with fail
        (with_reducible refine KH.out.mono ?_)
        rintro e w2 ⟨rfl, b2⟩
        clear xo
        have VM := Lib.hid (R.out.vm.later b2)
        have DM := Lib.hid (R.out.dm.later b2)
        have B2 := Lib.hid (R.out.b.trans (b2.mono R.out.b.size))
        have RV := Lib.hid R.out.v
        have RL := Lib.hid R.out.le
        clear b2 KH R
        obtain ⟨u, b, o, rfl, hb, u1, ru, y0, y1, y2, y3, y4, y5⟩ := VM.out.at (i := m) (by rw [HM.out]; omega)
        obtain ⟨a2, c2, rfl, _⟩ := id ru.r
        have RU := Lib.hid ru
        have wz : IntKind.i64.wrap (((m + 1 : Nat) : Int) - 1) = (m : Int) := by rw [IntKind.wrap_i64]; omega
        have wq : ((m + 1 : Nat) : Int) - 1 = (m : Int) := by omega
        obtain ⟨X, hX⟩ : ∃ X, X = vs[m]'(by rw [HM.out]; omega) := ⟨_, rfl⟩
        obtain ⟨L, hL⟩ : ∃ L, L = ll[k]'(by rw [← N.out]; exact hlt) := ⟨_, rfl⟩
        rw [← hL] at HO XO ⊢
        rw [← hX] at RU y0 y1 y2 y3 y4 y5
        have EX := Lib.hid hX
        have EL := Lib.hid hL
        have HLN := Lib.hid (show L.length ≤ 1000000 by rw [hL]; have := HLN.out; omega)
        clear ru hX hL
        have B3 := Lib.hid (B2.out.trans ((below_new w2 (.cells (pgC X (.slice a2 X.rows.length c2)) 45)).mono B2.out.size))
        have X3 := Lib.hid (PBx.new w2 X (.slice a2 X.rows.length c2))
        have VM3 := Lib.hid (VM.out.later (below_new w2 (.cells (pgC X (.slice a2 X.rows.length c2)) 45)))
        have DM3 := Lib.hid (DM.out.later (below_new w2 (.cells (pgC X (.slice a2 X.rows.length c2)) 45)))
        have RU3 := Lib.hid (RU.out.later (below_new w2 (.cells (pgC X (.slice a2 X.rows.length c2)) 45)))
        obtain ⟨x0, x1, x2, x3, x4, x5⟩ := X3.out.six
        unfold pgC at X3 B3 VM3 DM3 RU3 x0 x1 x2 x3 x4 x5
        go_wp2_with fail
        clear y0 y1 y2 y3 y4 y5 RU VM DM B2
        generalize World.alloc w2 _ = w3 at *
        obtain ⟨q, hq⟩ : ∃ q, q = (redo X (10 * (m + 1)) L).1 := ⟨_, rfl⟩
        obtain ⟨e, he⟩ : ∃ e, e = (redo X (10 * (m + 1)) L).2 := ⟨_, rfl⟩
        have GX := Lib.hid (RV.out.gd X (by rw [EX.out]; exact List.getElem_mem _))
        have KR := Lib.hid (fun W (B : Below w3.heap.size w3 W) => credo_any (lsn := 10 * (m + 1)) (RU3.out.later B).r RU3.out.cap GX.out.us ((HO.out.later B3.out).later B) (by omega) HLN.out)
        have e10 : ((10 * (m + 1) : Nat) : Int) = IntKind.u64.wrap (IntKind.i64.wrap (10 * ((m : Int) + 1))) := wrap10 m hm13
        unfold pgV at KR
        rw [← hq, ← he, e10] at KR
        have NZ := Lib.hid (fun W v' (r : Page.Rows W v' q.rows) (h : v' = .slice a2 X.rows.length c2) => rows_nil_of RU3.out.r (show Page.Rows W (.slice a2 X.rows.length c2) q.rows from h ▸ r))
        have EQ := Lib.hid (show redo X (10 * (m + 1)) L = (q, e) from by rw [hq, he])
        have SC := Lib.hid (fun W (b : Below w3.heap.size w3 W) => (show W.cell? ⟨w2.heap.size, 0, none⟩ = some (.int .u8 (X.kind : Int)) ∧ W.cell? ⟨w2.heap.size, 1, none⟩ = some (.int .u8 (X.level : Int)) ∧ W.cell? ⟨w2.heap.size, 2, none⟩ = some (.int .u32 (X.id : Int)) ∧ W.cell? ⟨w2.heap.size, 3, none⟩ = some (.int .u64 (X.lsn : Int)) ∧ W.cell? ⟨w2.heap.size, 4, none⟩ = some (.int .u32 (X.next : Int)) ∧ W.cell? ⟨w2.heap.size, 5, none⟩ = some (.slice a2 X.rows.length c2) ∧ W.cell? ⟨bl, ol + k, none⟩ = some (.slice a1 L.length c1) from by
          obtain ⟨h0, h1, h2, h3, h4, h5⟩ := (X3.out.later b).six
          exact ⟨h0, h1, h2, h3, h4, h5, XO.out _ (B3.out.trans (b.mono B3.out.size))⟩))
        have RU := Lib.hid RU3.out
        have WV := Lib.hid B3.out.size
        clear hq he e10 RU3
        go_cut [11, 12] (fun x y wx => ∃ g v, x = .pointer (some ⟨g, 0, none⟩) ∧ y = .int .i64 (e : Int) ∧ Got w w3 wx g q v)
        case first =>
          clear x0 x1 x2 x3 x4 x5
          refine wp_region_noPanic ?_
          refine wp_region_held_drew (S := (fun w' => w'.cell? ⟨w2.heap.size, 0, none⟩ = some (.int .u8 (X.kind : Int)) ∧ w'.cell? ⟨w2.heap.size, 1, none⟩ = some (.int .u8 (X.level : Int)) ∧ w'.cell? ⟨w2.heap.size, 2, none⟩ = some (.int .u32 (X.id : Int)) ∧ w'.cell? ⟨w2.heap.size, 3, none⟩ = some (.int .u64 (X.lsn : Int)) ∧ w'.cell? ⟨w2.heap.size, 4, none⟩ = some (.int .u32 (X.next : Int)) ∧ w'.cell? ⟨w2.heap.size, 5, none⟩ = some (.slice a2 X.rows.length c2) ∧ w'.cell? ⟨bl, ol + k, none⟩ = some (.slice a1 L.length c1))) (by kernel_rfl) (SC.out _ (Below.refl _ _).drew) (fun hHeld => ?_)
          refine wpAnyH_take (i := 0) (v := ?_) rfl (by kernel_rfl) (by kernel_rfl) (by kernel_rfl) (fun _ _ _ h => h) (Or.inl ⟨by rfl, ?_⟩) hHeld ?_
          rotate_left
          · (intro w hSw; (try dsimp only at hSw); go_simp; (try with_reducible rfl))
          simp only [List.getElem_toArray, List.getElem_cons_zero, Act.put, List.setIfInBounds_toArray, List.set_cons_zero, List.set_cons_succ]
          refine wpAnyH_take (i := 1) (v := ?_) rfl (by kernel_rfl) (by kernel_rfl) (by kernel_rfl) (fun _ _ _ h => h) (Or.inl ⟨by rfl, ?_⟩) hHeld ?_
          rotate_left
          · (intro w hSw; (try dsimp only at hSw); go_simp; (try with_reducible rfl))
          simp only [List.getElem_toArray, List.getElem_cons_succ, List.getElem_cons_zero, Act.put, List.setIfInBounds_toArray, List.set_cons_zero, List.set_cons_succ]
          refine wpAnyH_take (i := 2) (v := ?_) rfl (by kernel_rfl) (by kernel_rfl) (by kernel_rfl) (fun _ _ _ h => h) (Or.inl ⟨by rfl, ?_⟩) hHeld ?_
          rotate_left
          · (intro w hSw; (try dsimp only at hSw); go_simp; (try with_reducible rfl))
          simp only [List.getElem_toArray, List.getElem_cons_succ, List.getElem_cons_zero, Act.put, List.setIfInBounds_toArray, List.set_cons_zero, List.set_cons_succ]
          refine wpAnyH_take (i := 3) (v := ?_) rfl (by kernel_rfl) (by kernel_rfl) (by kernel_rfl) (fun _ _ _ h => h) (Or.inl ⟨by rfl, ?_⟩) hHeld ?_
          rotate_left
          · (intro w hSw; (try dsimp only at hSw); go_simp; (try with_reducible rfl))
          simp only [List.getElem_toArray, List.getElem_cons_succ, List.getElem_cons_zero, Act.put, List.setIfInBounds_toArray, List.set_cons_zero, List.set_cons_succ]
          refine wpAnyH_take (i := 4) (v := ?_) rfl (by kernel_rfl) (by kernel_rfl) (by kernel_rfl) (fun _ _ _ h => h) (Or.inl ⟨by rfl, ?_⟩) hHeld ?_
          rotate_left
          · (intro w hSw; (try dsimp only at hSw); go_simp; (try with_reducible rfl))
          simp only [List.getElem_toArray, List.getElem_cons_succ, List.getElem_cons_zero, Act.put, List.setIfInBounds_toArray, List.set_cons_zero, List.set_cons_succ]
          refine wpAnyH_take (i := 5) (v := ?_) rfl (by kernel_rfl) (by kernel_rfl) (by kernel_rfl) (fun _ _ _ h => h) (Or.inl ⟨by rfl, ?_⟩) hHeld ?_
          rotate_left
          · (intro w hSw; (try dsimp only at hSw); go_simp; (try with_reducible rfl))
          simp only [List.getElem_toArray, List.getElem_cons_succ, List.getElem_cons_zero, Act.put, List.setIfInBounds_toArray, List.set_cons_zero, List.set_cons_succ]
          refine wpAnyH_take (i := 6) (v := ?_) rfl (by kernel_rfl) (by kernel_rfl) (by kernel_rfl) (fun _ _ _ h => h) (Or.inl ⟨by rfl, ?_⟩) hHeld ?_
          rotate_left
          · (intro w hSw; (try dsimp only at hSw); go_simp; (try with_reducible rfl))
          simp only [List.getElem_toArray, List.getElem_cons_succ, List.getElem_cons_zero, Act.put, List.setIfInBounds_toArray, List.set_cons_zero, List.set_cons_succ]
          refine wpAnyH_take (i := 7) (v := ?_) rfl (by kernel_rfl) (by kernel_rfl) (by kernel_rfl) (fun _ _ _ h => h) (Or.inl ⟨by rfl, ?_⟩) hHeld ?_
          rotate_left
          · (intro w hSw; (try dsimp only at hSw); go_simp; (try with_reducible rfl))
          simp only [List.getElem_toArray, List.getElem_cons_succ, List.getElem_cons_zero, Act.put, List.setIfInBounds_toArray, List.set_cons_zero, List.set_cons_succ]
          refine wpAnyH_take (i := 8) (v := ?_) rfl (by kernel_rfl) (by kernel_rfl) (by kernel_rfl) (fun _ _ _ h => h) (Or.inl ⟨by rfl, ?_⟩) hHeld ?_
          rotate_left
          · (intro w hSw; (try dsimp only at hSw); go_simp; (try with_reducible rfl))
          simp only [List.getElem_toArray, List.getElem_cons_succ, List.getElem_cons_zero, Act.put, List.setIfInBounds_toArray, List.set_cons_zero, List.set_cons_succ]
          have B0 : Below w3.heap.size w3 w3.drew := (Below.refl _ _).drew
          refine wpAnyH_ready (rs := [9, 13]) (by kernel_rfl) (by simp) (AllReadyH.cons rfl (fun K hK => ?_) (AllReadyH.cons rfl (fun K hK => ?_) AllReadyH.nil))
          · clear hHeld
            refine step_fnW (by rfl) (.func 23) [.tmp 48, .tmp 52, .tmp 56] _ rfl 23 [] (by simp [Act.eval]) _ Try.func23 (by kernel_rfl) (by kernel_rfl) (KR.out _ B0) (by simp [Act.eval]) ?_
            rintro e w4 ⟨v4, rfl, r4, o4, b4⟩
            refine ⟨_, rfl, ?_⟩
            have T4 := B0.trans (b4.mono B0.size)
            obtain ⟨aq, cq, rfl, _⟩ := id r4
            have RQ := Lib.hid ((RU.out.later B0).got b4 r4 o4 (fun h h1 => NZ.out _ _ r4 h h1))
            refine hK.out _ _ (SC.out _ T4) (fun hHeld => ?_)
            clear hK K o4 r4
            simp only [List.getElem_toArray, List.getElem_cons_succ, List.getElem_cons_zero, Act.put, List.setIfInBounds_toArray, List.set_cons_zero, List.set_cons_succ]
            refine wpAnyH_take (i := 10) (v := ?_) rfl (by kernel_rfl) (by kernel_rfl) (by kernel_rfl) (fun _ _ _ h => h) (Or.inl ⟨by rfl, ?_⟩) hHeld ?_
            rotate_left
            · (intro w hSw; (try dsimp only at hSw); go_simp; (try with_reducible rfl))
            simp only [List.getElem_toArray, List.getElem_cons_succ, List.getElem_cons_zero, Act.put, List.setIfInBounds_toArray, List.set_cons_zero, List.set_cons_succ]
            refine wpAnyH_take (i := 11) (v := ?_) rfl (by kernel_rfl) (by kernel_rfl) (by kernel_rfl) (fun _ _ _ h => h) (Or.inl ⟨by rfl, ?_⟩) hHeld ?_
            rotate_left
            · (intro w hSw; (try dsimp only at hSw); go_simp; (try with_reducible rfl))
            simp only [List.getElem_toArray, List.getElem_cons_succ, List.getElem_cons_zero, Act.put, List.setIfInBounds_toArray, List.set_cons_zero, List.set_cons_succ]
            refine wpAnyH_take (i := 12) (v := ?_) rfl (by kernel_rfl) (by kernel_rfl) (by kernel_rfl) (fun _ _ _ h => h) (Or.inl ⟨by rfl, ?_⟩) hHeld ?_
            rotate_left
            · (intro w hSw; (try dsimp only at hSw); go_simp; (try with_reducible rfl))
            simp only [List.getElem_toArray, List.getElem_cons_succ, List.getElem_cons_zero, Act.put, List.setIfInBounds_toArray, List.set_cons_zero, List.set_cons_succ]
            refine wpAnyH_ready (rs := [13]) (by kernel_rfl) (by simp) (AllReadyH.cons rfl (fun K hK => ?_) AllReadyH.nil)
            have T5 := T4.trans ((below_new w4 (.cells Page.zeroP 45)).mono T4.size)
            refine step_al (some 11) (by rfl) (by rfl) (by rfl) ?_
            clear hHeld
            refine hK.out _ _ (SC.out _ T5) (fun hHeld => ?_)
            clear hK K hHeld
            simp only [Act.put, List.setIfInBounds_toArray, List.set_cons_zero, List.set_cons_succ]
            refine wpAnyH_ready (rs := [14]) (by kernel_rfl) (by simp) (AllReadyH.cons rfl (fun K hK => ?_) AllReadyH.nil)
            have GG := Lib.hid (Got.put (heap_alloc_new w4 _) WV.out T4.size T5 (RQ.out.later (below_new w4 _)))
            refine step_st (X := q) none (by rfl) (by rfl) _ _ (by rfl) (by rfl) (by rfl) (heap_alloc_new w4 _) rfl ?_
            refine hK.out _ _ (SC.out _ GG.out.below) (fun hHeld => ?_)
            clear hK K
            simp only [Act.put]
            refine wpAnyH_take (i := 15) (v := ?_) rfl (by kernel_rfl) (by kernel_rfl) (by kernel_rfl) (fun _ _ _ h => h) (Or.inl ⟨by rfl, ?_⟩) hHeld ?_
            rotate_left
            · (intro w hSw; (try dsimp only at hSw); go_simp; (try with_reducible rfl))
            simp only [List.getElem_toArray, List.getElem_cons_succ, List.getElem_cons_zero, Act.put, List.setIfInBounds_toArray, List.set_cons_zero, List.set_cons_succ]
            refine wpAnyH_done (by kernel_rfl) ?_ _
            refine NoPanic.normal ?_
            go_wp2_with fail
            go_meet
            exact ⟨_, _, rfl, rfl, GG.out⟩
          · clear hHeld
            have T5 := B0.trans ((below_new w3.drew (.cells Page.zeroP 45)).mono B0.size)
            refine step_al (some 11) (by rfl) (by rfl) (by rfl) ?_
            have HX := heap_alloc_new w3.drew (.cells Page.zeroP 45)
            refine hK.out _ _ (SC.out _ T5) (fun hHeld => ?_)
            clear hK K hHeld
            simp only [Act.put, List.setIfInBounds_toArray, List.set_cons_zero, List.set_cons_succ]
            generalize World.alloc w3.drew _ = w5 at *
            refine wpAnyH_ready (rs := [9]) (by kernel_rfl) (by simp) (AllReadyH.cons rfl (fun K hK => ?_) AllReadyH.nil)
            refine step_fnW (by rfl) (.func 23) [.tmp 48, .tmp 52, .tmp 56] _ rfl 23 [] (by simp [Act.eval]) _ Try.func23 (by kernel_rfl) (by kernel_rfl) (KR.out _ T5) (by simp [Act.eval]) ?_
            rintro e w6 ⟨v6, rfl, r6, o6, b6⟩
            refine ⟨_, rfl, ?_⟩
            have T6 := T5.trans (b6.mono T5.size)
            obtain ⟨aq, cq, rfl, _⟩ := id r6
            have RQ := Lib.hid ((RU.out.later T5).got b6 r6 o6 (fun h h1 => NZ.out _ _ r6 h h1))
            refine hK.out _ _ (SC.out _ T6) (fun hHeld => ?_)
            clear hK K o6 r6
            simp only [List.getElem_toArray, List.getElem_cons_succ, List.getElem_cons_zero, Act.put, List.setIfInBounds_toArray, List.set_cons_zero, List.set_cons_succ]
            refine wpAnyH_take (i := 10) (v := ?_) rfl (by kernel_rfl) (by kernel_rfl) (by kernel_rfl) (fun _ _ _ h => h) (Or.inl ⟨by rfl, ?_⟩) hHeld ?_
            rotate_left
            · (intro w hSw; (try dsimp only at hSw); go_simp; (try with_reducible rfl))
            simp only [List.getElem_toArray, List.getElem_cons_succ, List.getElem_cons_zero, Act.put, List.setIfInBounds_toArray, List.set_cons_zero, List.set_cons_succ]
            refine wpAnyH_take (i := 11) (v := ?_) rfl (by kernel_rfl) (by kernel_rfl) (by kernel_rfl) (fun _ _ _ h => h) (Or.inl ⟨by rfl, ?_⟩) hHeld ?_
            rotate_left
            · (intro w hSw; (try dsimp only at hSw); go_simp; (try with_reducible rfl))
            simp only [List.getElem_toArray, List.getElem_cons_succ, List.getElem_cons_zero, Act.put, List.setIfInBounds_toArray, List.set_cons_zero, List.set_cons_succ]
            refine wpAnyH_take (i := 12) (v := ?_) rfl (by kernel_rfl) (by kernel_rfl) (by kernel_rfl) (fun _ _ _ h => h) (Or.inl ⟨by rfl, ?_⟩) hHeld ?_
            rotate_left
            · (intro w hSw; (try dsimp only at hSw); go_simp; (try with_reducible rfl))
            simp only [List.getElem_toArray, List.getElem_cons_succ, List.getElem_cons_zero, Act.put, List.setIfInBounds_toArray, List.set_cons_zero, List.set_cons_succ]
            clear hHeld
            have HX6 := (b6.block w3.drew.heap.size (Array.getElem?_eq_some_iff.1 HX).1).trans HX
            refine wpAnyH_ready (rs := [14]) (by kernel_rfl) (by simp) (AllReadyH.cons rfl (fun K hK => ?_) AllReadyH.nil)
            have GG := Lib.hid (Got.put HX6 WV.out (Nat.le_refl _) T6 RQ.out)
            refine step_st (X := q) none (by rfl) (by rfl) _ _ (by rfl) (by rfl) (by rfl) HX6 rfl ?_
            refine hK.out _ _ (SC.out _ GG.out.below) (fun hHeld => ?_)
            clear hK K
            simp only [Act.put]
            refine wpAnyH_take (i := 15) (v := ?_) rfl (by kernel_rfl) (by kernel_rfl) (by kernel_rfl) (fun _ _ _ h => h) (Or.inl ⟨by rfl, ?_⟩) hHeld ?_
            rotate_left
            · (intro w hSw; (try dsimp only at hSw); go_simp; (try with_reducible rfl))
            simp only [List.getElem_toArray, List.getElem_cons_succ, List.getElem_cons_zero, Act.put, List.setIfInBounds_toArray, List.set_cons_zero, List.set_cons_succ]
            refine wpAnyH_done (by kernel_rfl) ?_ _
            refine NoPanic.normal ?_
            go_wp2_with fail
            go_meet
            exact ⟨_, _, rfl, rfl, GG.out⟩
        case rest =>
          obtain ⟨g11, v11, rfl, rfl, G⟩ := hcut
          obtain ⟨aq, cq, rfl, _⟩ := id G.rows.r
          have X4 := Lib.hid (X3.out.later G.below)
          have VM4 := Lib.hid (VM3.out.later G.below)
          have DM4 := Lib.hid (DM3.out.later G.below)
          have B4 := Lib.hid (B3.out.trans (G.below.mono B3.out.size))
          have Y4 : PBx _ g11 q (.slice aq q.rows.length cq) := ⟨G.box⟩
          have RQ := Lib.hid G.rows
          obtain ⟨y0, y1, y2, y3, y4, y5⟩ := Y4.six
          have x3 := X4.out.six.2.2.2.1
          clear G Y4 KR NZ SC RU WV VM3 DM3 B3 X3 x0 x1 x2 x4 x5 X1 S1 S2
          have SK := Lib.hid (fun (W : World) (B : Below w.heap.size w W) (V : VsM w W (.slice (some ⟨b, o, none⟩) (m + 1) cv) vs) (D : DsM w W (.slice add m cd) ds) => (show ∃ (vs' : List Pg) (ds' : List (List O)) (k' : Nat), Value.int .i64 ((k + 1 : Nat) : Int) = .int .i64 k' ∧ R1 w W n vs' ds' (.slice (some ⟨b, o, none⟩) (m + 1) cv) (.slice add m cd) k' from ⟨vs, ds, k + 1, rfl, RV.out, V, D, by have := RL.out; omega, hlt, B⟩))
          by_cases he0 : e = 0
          · have f1 : ((e : Int) != 0) = false := by rw [he0]; rfl
            by_cases hql : q.lsn = X.lsn
            · have f2 : ((q.lsn : Int) == (X.lsn : Int)) = true := by rw [hql]; simp
              clear hql he0
              go_wp2_with fail
              go_roundw
              case rel => exact SK.out _ B4.out VM4.out DM4.out
              case measure => simp [intOf]; omega
            · have f2 : ((q.lsn : Int) == (X.lsn : Int)) = false := by rw [beq_eq_false_iff_ne]; omega
              have MORE := Lib.hid (RV.out.next HM.out hm13 EX.out EQ.out he0 hql (ops_wf HO.out))
              clear he0 hql SK
              obtain ⟨lq, h1, h2, h3⟩ := VM4.out
              have hlq : lq.length = m + 1 := by rw [← HM.out, ← h1, List.length_map]
              have LQ1 := Lib.hid h1
              have OV := Lib.hid h2
              have RV4 := Lib.hid h3
              have LQ := Lib.hid hlq
              clear h1 h2 h3 hlq
              obtain ⟨qq, hqq⟩ : ∃ qq : Pg × Sl, qq = (q, ⟨.slice aq q.rows.length cq, rfl⟩) := ⟨_, rfl⟩
              have SR := Lib.hid (fun (W : World) => (show Seq.Src pgS (W.alloc (.cells #[.int .u8 (q.kind : Int), .int .u8 (q.level : Int), .int .u32 (q.id : Int), .int .u64 (q.lsn : Int), .int .u32 (q.next : Int), .slice aq q.rows.length cq] 45)) (.slice (some ⟨W.heap.size, 0, none⟩) 1 1) [qq] from by
                rw [hqq]
                exact one_src pgS (W := W) (q, ⟨.slice aq q.rows.length cq, rfl⟩)))
              have HQQ := Lib.hid hqq
              clear hqq
              go_upto_region 15 with (at_builtin; refine wpList_app (S := pgS) (W0 := w) (l := lq) (m := [qq]) rfl _ _ rfl (OV.out.later (below_new _ _)) (SR.out _) (by rw [LQ.out]; simp; omega) rfl rfl ?_; intro v4 w4 o4 g4)
              have b5 := fun (W : World) => below_new W (.cells #[.int .u8 (q.kind : Int), .int .u8 (q.level : Int), .int .u32 (q.id : Int), .int .u64 (q.lsn : Int), .int .u32 (q.next : Int), .slice aq q.rows.length cq] 45)
              obtain ⟨ld, d1, d2, d3⟩ := DM4.out
              have B5 := Lib.hid (Seq.below_own (B4.out.trans ((b5 _).mono B4.out.size)) (OV.out.later (b5 _)) g4)
              have OD := Lib.hid ((d2.later (b5 _)).grown (OV.out.later (b5 _)) (by decide) g4)
              have RV5 := Lib.hid (show ∀ x ∈ lq ++ [qq], Rin w w4 x.2.1 x.1.rows from fun x hx => by
                rcases List.mem_append.1 hx with hx | hx
                · exact ((RV4.out x hx).later (b5 _)).grown (OV.out.later (b5 _)) (by decide) g4
                · rw [List.mem_singleton.1 hx, HQQ.out]
                  exact (RQ.out.later (b5 _)).grown (OV.out.later (b5 _)) (by decide) g4)
              have OP := Lib.hid o4
              have D1 := Lib.hid d1
              have D3 := Lib.hid d3
              have hld : ld.length = m := by rw [d1, HD.out]
              have LD := Lib.hid hld
              have hov : (lq ++ [qq]).length = m + 2 := by rw [List.length_append, LQ.out]; rfl
              obtain ⟨av, cv4, rfl⟩ := o4.shape
              rw [hov] at OP ⊢
              have xo := XO.out _ B5.out
              have SR2 := Lib.hid (fun (W : World) => (show Seq.Src lstS (W.alloc (.cells #[.slice a1 L.length c1] 22)) (.slice (some ⟨W.heap.size, 0, none⟩) 1 1) [(⟨.slice a1 L.length c1, rfl⟩ : Sl)] from one_src lstS (W := W) ⟨.slice a1 L.length c1, rfl⟩))
              clear d1 d2 d3 g4 o4 hld hov RV4 OV B4 DM4 RQ SR X4 VM4
              go_wp2_with (at_builtin; refine wpList_app (S := lstS) (W0 := w) (l := ld) (m := [(⟨.slice a1 L.length c1, rfl⟩ : Sl)]) rfl _ _ rfl (OD.out.later (below_new _ _)) (SR2.out _) (by rw [LD.out]; show m + 1 ≤ 1000000; omega) rfl rfl ?_; intro v6 w6 o6 g6)
              have b6 := fun (W : World) => below_new W (.cells #[.slice a1 L.length c1] 22)
              have B6 := Seq.below_own (B5.out.trans ((b6 _).mono B5.out.size)) (OD.out.later (b6 _)) g6
              have OP6 := (OP.out.later (b6 _)).grown (OD.out.later (b6 _)) (by decide) g6
              refine ⟨⟨vs ++ [q], ds ++ [L], k + 1, by go_num, MORE.out, ⟨lq ++ [qq], by rw [List.map_append, LQ1.out, HQQ.out]; rfl, OP6, fun x hx => ((RV5.out x hx).later (b6 _)).grown (OD.out.later (b6 _)) (by decide) g6⟩, DsM.put o6 D1.out D3.out HO.out HLN.out, by rw [List.length_append, List.length_singleton]; have := RL.out; omega, hlt, B6⟩, by simp [intOf]; omega⟩
          · have f1 : ((e : Int) != 0) = true := by rw [bne_iff_ne]; omega
            clear he0
            go_wp2_with fail
            go_roundw
            case rel => exact SK.out _ B4.out VM4.out DM4.out
            case measure => simp [intOf]; omega
    · obtain ⟨f, rfl⟩ : ∃ f : Nat, fr = (f : Int) := ⟨fr.toNat, by omega⟩
      obtain rfl : k = n := by omega
      obtain ⟨wz, rfl⟩ : ∃ wz, wz = wr := ⟨_, rfl⟩
      go_upto_region 17 with fail
      have hj : ((f : Int) % ((m : Int) + 1)) = ((f % (m + 1) : Nat) : Int) := by push_cast; rfl
      have hjm : f % (m + 1) ≤ m := by have := Nat.mod_lt f (show 0 < m + 1 by omega); omega
      rw [hj]
      clear hj
      generalize f % (m + 1) = j at *
      have RV := Lib.hid R.out.v
      have VM := Lib.hid R.out.vm
      have DM := Lib.hid R.out.dm
      have B2 := Lib.hid R.out.b
      clear R
      obtain ⟨u, b, o, rfl, _, u1, ru, y0, y1, y2, y3, y4, y5⟩ := VM.out.at (i := j) (by rw [HM.out]; omega)
      obtain ⟨a2, c2, rfl, _⟩ := id ru.r
      have RU := Lib.hid ru
      have hX0 := List.getElem?_eq_getElem (l := vs) (i := j) (by rw [HM.out]; omega)
      generalize vs[j]'(by rw [HM.out]; omega) = X0 at *
      have HX0 := Lib.hid hX0
      clear ru hX0
      have B3 := Lib.hid (below_new wz (.cells (pgC X0 (.slice a2 X0.rows.length c2)) 45))
      have X3 := Lib.hid (PBx.new wz X0 (.slice a2 X0.rows.length c2))
      have hg : wz.heap.size < (wz.alloc (.cells (pgC X0 (.slice a2 X0.rows.length c2)) 45)).heap.size := by rw [World.size_alloc]; omega
      unfold pgC at B3 X3 hg
      go_upto_region 18 with fail
      have S3 := Lib.hid (show R2 w wz _ X0 (.slice a2 X0.rows.length c2) from ⟨X3.out, RU.out.later B3.out, B3.out⟩)
      generalize World.alloc wz _ = w3 at *
      have HX1 := Lib.hid (show vs[max j 0]? = some X0 from by rw [Nat.max_zero]; exact HX0.out)
      clear X3 B3 RU HX0 hg y0 y1 y2 y3 y4 y5 S1 S2 X1
      go_wp2_with fail
      go_loopw [15] (fun i wr => ∃ (c : Nat) (V : Pg) (u : Value), i = .int .i64 c ∧ c ≤ m ∧ vs[max j c]? = some V ∧ R2 w wz wr V u) (fun i _ => m - (intOf i).toNat)
      case atStart => exact ⟨0, X0, _, rfl, Nat.zero_le _, HX1.out, S3.out⟩
      case round =>
        obtain ⟨i, X, u, rfl, him, hX, hr⟩ := hrel
        have HX := Lib.hid hX
        have R := Lib.hid hr
        obtain ⟨a2, c2, rfl, _⟩ := id hr.rows.r
        clear hX hr HX1 S3
        have BW := Lib.hid (B2.out.trans (R.out.below.mono B2.out.size))
        have RU := Lib.hid R.out.rows
        have WV := Lib.hid BW.out.size
        have GX := Lib.hid (RV.out.gd X (List.mem_of_getElem? HX.out))
        by_cases hlt : i < m
        · obtain ⟨ul, bl, ol, rfl, hbl, ho, xw⟩ := DM.out.at (i := i) (by rw [HD.out]; exact hlt)
          obtain ⟨a1, c1, rfl⟩ := ho.shape
          have HO := Lib.hid ho
          have XO := Lib.hid (fun W (B : Below wz.heap.size wz W) => (World.cell?_of_block (B.block bl hbl)).trans xw)
          have ag := Lib.hid (RV.out.more_at HM.out (j := j) (i := i) hjm (by rw [HD.out]; exact hlt) HX.out)
          obtain ⟨L, hL⟩ : ∃ L, L = ds[i]'(by rw [HD.out]; exact hlt) := ⟨_, rfl⟩
          have HLN := Lib.hid (show L.length ≤ 1000000 by rw [hL]; exact DM.out.small _ (List.getElem_mem _))
          rw [← hL] at HO XO ag
          clear hL ho xw hbl
          obtain ⟨q, EQ, HQ⟩ := ag.out
          obtain ⟨e, he⟩ : ∃ e : Nat, e = 0 := ⟨_, rfl⟩
          have KR := Lib.hid (fun W (B : Below wr.heap.size wr W) => credo_any (lsn := 10 * (i + 1)) (RU.out.later B).r RU.out.cap GX.out.us ((HO.out.later BW.out).later B) (by omega) HLN.out)
          unfold pgV at KR
          rw [EQ, wrap11 i (by omega)] at KR
          simp only at KR
          rw [← he] at KR
          have HE := Lib.hid he
          have NZ := Lib.hid (fun W v' (r : Page.Rows W v' q.rows) (h : v' = .slice a2 X.rows.length c2) => rows_nil_of RU.out.r (show Page.Rows W (.slice a2 X.rows.length c2) q.rows from h ▸ r))
          have SC := Lib.hid (fun W (b : Below wr.heap.size wr W) => (show W.cell? ⟨wz.heap.size, 0, none⟩ = some (.int .u8 (X.kind : Int)) ∧ W.cell? ⟨wz.heap.size, 1, none⟩ = some (.int .u8 (X.level : Int)) ∧ W.cell? ⟨wz.heap.size, 2, none⟩ = some (.int .u32 (X.id : Int)) ∧ W.cell? ⟨wz.heap.size, 3, none⟩ = some (.int .u64 (X.lsn : Int)) ∧ W.cell? ⟨wz.heap.size, 4, none⟩ = some (.int .u32 (X.next : Int)) ∧ W.cell? ⟨wz.heap.size, 5, none⟩ = some (.slice a2 X.rows.length c2) ∧ W.cell? ⟨bl, ol + i, none⟩ = some (.slice a1 L.length c1) from by
            obtain ⟨h0, h1, h2, h3, h4, h5⟩ := (R.out.box.later b).six
            exact ⟨h0, h1, h2, h3, h4, h5, XO.out _ (R.out.below.trans (b.mono R.out.below.size))⟩))
          have HQ := Lib.hid HQ
          clear EQ ag he
          go_upto_region 21 with fail
          go_cut [16, 17] (fun x y wx => ∃ g v, x = .pointer (some ⟨g, 0, none⟩) ∧ y = .int .i64 (e : Int) ∧ Got w wr wx g q v)
          case first =>
            refine wp_region_noPanic ?_
            refine wp_region_held_drew (S := (fun w' => w'.cell? ⟨wz.heap.size, 0, none⟩ = some (.int .u8 (X.kind : Int)) ∧ w'.cell? ⟨wz.heap.size, 1, none⟩ = some (.int .u8 (X.level : Int)) ∧ w'.cell? ⟨wz.heap.size, 2, none⟩ = some (.int .u32 (X.id : Int)) ∧ w'.cell? ⟨wz.heap.size, 3, none⟩ = some (.int .u64 (X.lsn : Int)) ∧ w'.cell? ⟨wz.heap.size, 4, none⟩ = some (.int .u32 (X.next : Int)) ∧ w'.cell? ⟨wz.heap.size, 5, none⟩ = some (.slice a2 X.rows.length c2) ∧ w'.cell? ⟨bl, ol + i, none⟩ = some (.slice a1 L.length c1))) (by kernel_rfl) (SC.out _ (Below.refl _ _).drew) (fun hHeld => ?_)
            refine wpAnyH_take (i := 0) (v := ?_) rfl (by kernel_rfl) (by kernel_rfl) (by kernel_rfl) (fun _ _ _ h => h) (Or.inl ⟨by rfl, ?_⟩) hHeld ?_
            rotate_left
            · (intro w hSw; (try dsimp only at hSw); go_simp; (try with_reducible rfl))
            simp only [List.getElem_toArray, List.getElem_cons_zero, Act.put, List.setIfInBounds_toArray, List.set_cons_zero, List.set_cons_succ]
            refine wpAnyH_take (i := 1) (v := ?_) rfl (by kernel_rfl) (by kernel_rfl) (by kernel_rfl) (fun _ _ _ h => h) (Or.inl ⟨by rfl, ?_⟩) hHeld ?_
            rotate_left
            · (intro w hSw; (try dsimp only at hSw); go_simp; (try with_reducible rfl))
            simp only [List.getElem_toArray, List.getElem_cons_succ, List.getElem_cons_zero, Act.put, List.setIfInBounds_toArray, List.set_cons_zero, List.set_cons_succ]
            refine wpAnyH_take (i := 2) (v := ?_) rfl (by kernel_rfl) (by kernel_rfl) (by kernel_rfl) (fun _ _ _ h => h) (Or.inl ⟨by rfl, ?_⟩) hHeld ?_
            rotate_left
            · (intro w hSw; (try dsimp only at hSw); go_simp; (try with_reducible rfl))
            simp only [List.getElem_toArray, List.getElem_cons_succ, List.getElem_cons_zero, Act.put, List.setIfInBounds_toArray, List.set_cons_zero, List.set_cons_succ]
            refine wpAnyH_take (i := 3) (v := ?_) rfl (by kernel_rfl) (by kernel_rfl) (by kernel_rfl) (fun _ _ _ h => h) (Or.inl ⟨by rfl, ?_⟩) hHeld ?_
            rotate_left
            · (intro w hSw; (try dsimp only at hSw); go_simp; (try with_reducible rfl))
            simp only [List.getElem_toArray, List.getElem_cons_succ, List.getElem_cons_zero, Act.put, List.setIfInBounds_toArray, List.set_cons_zero, List.set_cons_succ]
            refine wpAnyH_take (i := 4) (v := ?_) rfl (by kernel_rfl) (by kernel_rfl) (by kernel_rfl) (fun _ _ _ h => h) (Or.inl ⟨by rfl, ?_⟩) hHeld ?_
            rotate_left
            · (intro w hSw; (try dsimp only at hSw); go_simp; (try with_reducible rfl))
            simp only [List.getElem_toArray, List.getElem_cons_succ, List.getElem_cons_zero, Act.put, List.setIfInBounds_toArray, List.set_cons_zero, List.set_cons_succ]
            refine wpAnyH_take (i := 5) (v := ?_) rfl (by kernel_rfl) (by kernel_rfl) (by kernel_rfl) (fun _ _ _ h => h) (Or.inl ⟨by rfl, ?_⟩) hHeld ?_
            rotate_left
            · (intro w hSw; (try dsimp only at hSw); go_simp; (try with_reducible rfl))
            simp only [List.getElem_toArray, List.getElem_cons_succ, List.getElem_cons_zero, Act.put, List.setIfInBounds_toArray, List.set_cons_zero, List.set_cons_succ]
            refine wpAnyH_take (i := 6) (v := ?_) rfl (by kernel_rfl) (by kernel_rfl) (by kernel_rfl) (fun _ _ _ h => h) (Or.inl ⟨by rfl, ?_⟩) hHeld ?_
            rotate_left
            · (intro w hSw; (try dsimp only at hSw); go_simp; (try with_reducible rfl))
            simp only [List.getElem_toArray, List.getElem_cons_succ, List.getElem_cons_zero, Act.put, List.setIfInBounds_toArray, List.set_cons_zero, List.set_cons_succ]
            refine wpAnyH_take (i := 7) (v := ?_) rfl (by kernel_rfl) (by kernel_rfl) (by kernel_rfl) (fun _ _ _ h => h) (Or.inl ⟨by rfl, ?_⟩) hHeld ?_
            rotate_left
            · (intro w hSw; (try dsimp only at hSw); go_simp; (try with_reducible rfl))
            simp only [List.getElem_toArray, List.getElem_cons_succ, List.getElem_cons_zero, Act.put, List.setIfInBounds_toArray, List.set_cons_zero, List.set_cons_succ]
            refine wpAnyH_take (i := 8) (v := ?_) rfl (by kernel_rfl) (by kernel_rfl) (by kernel_rfl) (fun _ _ _ h => h) (Or.inl ⟨by rfl, ?_⟩) hHeld ?_
            rotate_left
            · (intro w hSw; (try dsimp only at hSw); go_simp; (try with_reducible rfl))
            simp only [List.getElem_toArray, List.getElem_cons_succ, List.getElem_cons_zero, Act.put, List.setIfInBounds_toArray, List.set_cons_zero, List.set_cons_succ]
            have B0 : Below wr.heap.size wr wr.drew := (Below.refl _ _).drew
            refine wpAnyH_ready (rs := [9, 13]) (by kernel_rfl) (by simp) (AllReadyH.cons rfl (fun K hK => ?_) (AllReadyH.cons rfl (fun K hK => ?_) AllReadyH.nil))
            · clear hHeld
              refine step_fnW (by rfl) (.func 23) [.tmp 96, .tmp 100, .tmp 104] _ rfl 23 [] (by simp [Act.eval]) _ Try.func23 (by kernel_rfl) (by kernel_rfl) (KR.out _ B0) (by simp [Act.eval]) ?_
              rintro e w4 ⟨v4, rfl, r4, o4, b4⟩
              refine ⟨_, rfl, ?_⟩
              have T4 := B0.trans (b4.mono B0.size)
              obtain ⟨aq, cq, rfl, _⟩ := id r4
              have RQ := Lib.hid ((RU.out.later B0).got b4 r4 o4 (fun h h1 => NZ.out _ _ r4 h h1))
              refine hK.out _ _ (SC.out _ T4) (fun hHeld => ?_)
              clear hK K o4 r4
              simp only [List.getElem_toArray, List.getElem_cons_succ, List.getElem_cons_zero, Act.put, List.setIfInBounds_toArray, List.set_cons_zero, List.set_cons_succ]
              refine wpAnyH_take (i := 10) (v := ?_) rfl (by kernel_rfl) (by kernel_rfl) (by kernel_rfl) (fun _ _ _ h => h) (Or.inl ⟨by rfl, ?_⟩) hHeld ?_
              rotate_left
              · (intro w hSw; (try dsimp only at hSw); go_simp; (try with_reducible rfl))
              simp only [List.getElem_toArray, List.getElem_cons_succ, List.getElem_cons_zero, Act.put, List.setIfInBounds_toArray, List.set_cons_zero, List.set_cons_succ]
              refine wpAnyH_take (i := 11) (v := ?_) rfl (by kernel_rfl) (by kernel_rfl) (by kernel_rfl) (fun _ _ _ h => h) (Or.inl ⟨by rfl, ?_⟩) hHeld ?_
              rotate_left
              · (intro w hSw; (try dsimp only at hSw); go_simp; (try with_reducible rfl))
              simp only [List.getElem_toArray, List.getElem_cons_succ, List.getElem_cons_zero, Act.put, List.setIfInBounds_toArray, List.set_cons_zero, List.set_cons_succ]
              refine wpAnyH_take (i := 12) (v := ?_) rfl (by kernel_rfl) (by kernel_rfl) (by kernel_rfl) (fun _ _ _ h => h) (Or.inl ⟨by rfl, ?_⟩) hHeld ?_
              rotate_left
              · (intro w hSw; (try dsimp only at hSw); go_simp; (try with_reducible rfl))
              simp only [List.getElem_toArray, List.getElem_cons_succ, List.getElem_cons_zero, Act.put, List.setIfInBounds_toArray, List.set_cons_zero, List.set_cons_succ]
              refine wpAnyH_ready (rs := [13]) (by kernel_rfl) (by simp) (AllReadyH.cons rfl (fun K hK => ?_) AllReadyH.nil)
              have T5 := T4.trans ((below_new w4 (.cells Page.zeroP 45)).mono T4.size)
              refine step_al (some 16) (by rfl) (by rfl) (by rfl) ?_
              clear hHeld
              refine hK.out _ _ (SC.out _ T5) (fun hHeld => ?_)
              clear hK K hHeld
              simp only [Act.put, List.setIfInBounds_toArray, List.set_cons_zero, List.set_cons_succ]
              refine wpAnyH_ready (rs := [14]) (by kernel_rfl) (by simp) (AllReadyH.cons rfl (fun K hK => ?_) AllReadyH.nil)
              have GG := Lib.hid (Got.put (heap_alloc_new w4 _) WV.out T4.size T5 (RQ.out.later (below_new w4 _)))
              refine step_st (X := q) none (by rfl) (by rfl) _ _ (by rfl) (by rfl) (by rfl) (heap_alloc_new w4 _) rfl ?_
              refine hK.out _ _ (SC.out _ GG.out.below) (fun hHeld => ?_)
              clear hK K
              simp only [Act.put]
              refine wpAnyH_take (i := 15) (v := ?_) rfl (by kernel_rfl) (by kernel_rfl) (by kernel_rfl) (fun _ _ _ h => h) (Or.inl ⟨by rfl, ?_⟩) hHeld ?_
              rotate_left
              · (intro w hSw; (try dsimp only at hSw); go_simp; (try with_reducible rfl))
              simp only [List.getElem_toArray, List.getElem_cons_succ, List.getElem_cons_zero, Act.put, List.setIfInBounds_toArray, List.set_cons_zero, List.set_cons_succ]
              refine wpAnyH_done (by kernel_rfl) ?_ _
              refine NoPanic.normal ?_
              go_wp2_with fail
              go_meet
              exact ⟨_, _, rfl, rfl, GG.out⟩
            · clear hHeld
              have T5 := B0.trans ((below_new wr.drew (.cells Page.zeroP 45)).mono B0.size)
              refine step_al (some 16) (by rfl) (by rfl) (by rfl) ?_
              have HX := heap_alloc_new wr.drew (.cells Page.zeroP 45)
              refine hK.out _ _ (SC.out _ T5) (fun hHeld => ?_)
              clear hK K hHeld
              simp only [Act.put, List.setIfInBounds_toArray, List.set_cons_zero, List.set_cons_succ]
              generalize World.alloc wr.drew _ = w5 at *
              refine wpAnyH_ready (rs := [9]) (by kernel_rfl) (by simp) (AllReadyH.cons rfl (fun K hK => ?_) AllReadyH.nil)
              refine step_fnW (by rfl) (.func 23) [.tmp 96, .tmp 100, .tmp 104] _ rfl 23 [] (by simp [Act.eval]) _ Try.func23 (by kernel_rfl) (by kernel_rfl) (KR.out _ T5) (by simp [Act.eval]) ?_
              rintro e w6 ⟨v6, rfl, r6, o6, b6⟩
              refine ⟨_, rfl, ?_⟩
              have T6 := T5.trans (b6.mono T5.size)
              obtain ⟨aq, cq, rfl, _⟩ := id r6
              have RQ := Lib.hid ((RU.out.later T5).got b6 r6 o6 (fun h h1 => NZ.out _ _ r6 h h1))
              refine hK.out _ _ (SC.out _ T6) (fun hHeld => ?_)
              clear hK K o6 r6
              simp only [List.getElem_toArray, List.getElem_cons_succ, List.getElem_cons_zero, Act.put, List.setIfInBounds_toArray, List.set_cons_zero, List.set_cons_succ]
              refine wpAnyH_take (i := 10) (v := ?_) rfl (by kernel_rfl) (by kernel_rfl) (by kernel_rfl) (fun _ _ _ h => h) (Or.inl ⟨by rfl, ?_⟩) hHeld ?_
              rotate_left
              · (intro w hSw; (try dsimp only at hSw); go_simp; (try with_reducible rfl))
              simp only [List.getElem_toArray, List.getElem_cons_succ, List.getElem_cons_zero, Act.put, List.setIfInBounds_toArray, List.set_cons_zero, List.set_cons_succ]
              refine wpAnyH_take (i := 11) (v := ?_) rfl (by kernel_rfl) (by kernel_rfl) (by kernel_rfl) (fun _ _ _ h => h) (Or.inl ⟨by rfl, ?_⟩) hHeld ?_
              rotate_left
              · (intro w hSw; (try dsimp only at hSw); go_simp; (try with_reducible rfl))
              simp only [List.getElem_toArray, List.getElem_cons_succ, List.getElem_cons_zero, Act.put, List.setIfInBounds_toArray, List.set_cons_zero, List.set_cons_succ]
              refine wpAnyH_take (i := 12) (v := ?_) rfl (by kernel_rfl) (by kernel_rfl) (by kernel_rfl) (fun _ _ _ h => h) (Or.inl ⟨by rfl, ?_⟩) hHeld ?_
              rotate_left
              · (intro w hSw; (try dsimp only at hSw); go_simp; (try with_reducible rfl))
              simp only [List.getElem_toArray, List.getElem_cons_succ, List.getElem_cons_zero, Act.put, List.setIfInBounds_toArray, List.set_cons_zero, List.set_cons_succ]
              clear hHeld
              have HX6 := (b6.block wr.drew.heap.size (Array.getElem?_eq_some_iff.1 HX).1).trans HX
              refine wpAnyH_ready (rs := [14]) (by kernel_rfl) (by simp) (AllReadyH.cons rfl (fun K hK => ?_) AllReadyH.nil)
              have GG := Lib.hid (Got.put HX6 WV.out (Nat.le_refl _) T6 RQ.out)
              refine step_st (X := q) none (by rfl) (by rfl) _ _ (by rfl) (by rfl) (by rfl) HX6 rfl ?_
              refine hK.out _ _ (SC.out _ GG.out.below) (fun hHeld => ?_)
              clear hK K
              simp only [Act.put]
              refine wpAnyH_take (i := 15) (v := ?_) rfl (by kernel_rfl) (by kernel_rfl) (by kernel_rfl) (fun _ _ _ h => h) (Or.inl ⟨by rfl, ?_⟩) hHeld ?_
              rotate_left
              · (intro w hSw; (try dsimp only at hSw); go_simp; (try with_reducible rfl))
              simp only [List.getElem_toArray, List.getElem_cons_succ, List.getElem_cons_zero, Act.put, List.setIfInBounds_toArray, List.set_cons_zero, List.set_cons_succ]
              refine wpAnyH_done (by kernel_rfl) ?_ _
              refine NoPanic.normal ?_
              go_wp2_with fail
              go_meet
              exact ⟨_, _, rfl, rfl, GG.out⟩
          case rest =>
            obtain ⟨g16, v16, rfl, rfl, G⟩ := hcut
            obtain ⟨aq, cq, rfl, _⟩ := id G.rows.r
            obtain ⟨y0, y1, y2, y3, y4, y5⟩ := PBx.six (p := q) (u := .slice aq q.rows.length cq) ⟨G.box⟩
            have f1 : ((e : Int) != 0) = false := by rw [HE.out]; rfl
            have HB := Lib.hid (R.out.box.later G.below).box
            have GR := Lib.hid G.rows
            have GB := Lib.hid (R.out.below.trans (G.below.mono R.out.below.size))
            clear G KR NZ SC RU R XO HO
            go_wp2_with (refine wpList_store_row rfl 45 _ _ rfl wz.heap.size (pgC q (.slice aq q.rows.length cq)) rfl rfl 45 (pgC X (.slice a2 X.rows.length c2)) HB.out Page.info_page rfl (pgC_one q aq _ cq) ?_)
            exact ⟨⟨i + 1, q, .slice aq q.rows.length cq, by go_num, hlt, HQ.out, ⟨setRow_heap _ _ _ _ _ _ HB.out⟩, GR.out.beside HB.out B2.out.size _, below_setRow GB.out (Nat.le_refl _) _⟩, by simp [intOf]; omega⟩
        · obtain rfl : i = m := by omega
          have hvi : vs[i]? = some X := by
            have := HX.out
            rwa [Nat.max_eq_right hjm] at this
          obtain ⟨u, b', o', e', hb, u1, ru, y0, y1, y2, y3, y4, y5⟩ := VM.out.at (i := i) (by rw [HM.out]; omega)
          simp only [Option.some.injEq, Addr.mk.injEq] at e'
          obtain ⟨rfl, rfl, _⟩ := e'
          have hvx : vs[i]'(by rw [HM.out]; omega) = X := by
            have := List.getElem?_eq_getElem (l := vs) (i := i) (by rw [HM.out]; omega)
            rw [hvi] at this
            exact (Option.some.inj this).symm
          rw [hvx] at ru y0 y1 y2 y3 y4
          obtain ⟨a3, c3, rfl, _⟩ := id ru.r
          have BZ := Lib.hid R.out.below
          have KS := Lib.hid (fun W (B : Below wr.heap.size wr W) => (show Calls Try.prog 25 #[pgV X (.slice a2 X.rows.length c2), pgV X (.slice a3 X.rows.length c3)] W fun e w' => e = .returned (.bool true) ∧ Below W.heap.size W w' from by
            have := Page.rsame_any X X (RU.out.later B).r ((ru.later BZ.out).later B).r (by have := Page.used_len X.rows; have := GX.out.us; omega)
            rw [show Page.sameB X X = true from (Page.same_iff X X).2 rfl] at this
            exact this))
          unfold pgV at KS
          have SC := Lib.hid (fun W (B : Below wr.heap.size wr W) => (show W.cell? ⟨wz.heap.size, 0, none⟩ = some (.int .u8 (X.kind : Int)) ∧ W.cell? ⟨wz.heap.size, 1, none⟩ = some (.int .u8 (X.level : Int)) ∧ W.cell? ⟨wz.heap.size, 2, none⟩ = some (.int .u32 (X.id : Int)) ∧ W.cell? ⟨wz.heap.size, 3, none⟩ = some (.int .u64 (X.lsn : Int)) ∧ W.cell? ⟨wz.heap.size, 4, none⟩ = some (.int .u32 (X.next : Int)) ∧ W.cell? ⟨wz.heap.size, 5, none⟩ = some (.slice a2 X.rows.length c2) ∧ W.cell? ⟨b, o + i * 6, none⟩ = some (.int .u8 (X.kind : Int)) ∧ W.cell? ⟨b, o + i * 6 + 1, none⟩ = some (.int .u8 (X.level : Int)) ∧ W.cell? ⟨b, o + i * 6 + 2, none⟩ = some (.int .u32 (X.id : Int)) ∧ W.cell? ⟨b, o + i * 6 + 3, none⟩ = some (.int .u64 (X.lsn : Int)) ∧ W.cell? ⟨b, o + i * 6 + 4, none⟩ = some (.int .u32 (X.next : Int)) ∧ W.cell? ⟨b, o + i * 6 + 5, none⟩ = some (.slice a3 X.rows.length c3) from by
            obtain ⟨h0, h1, h2, h3, h4, h5⟩ := (R.out.box.later B).six
            have k : ∀ {n : Nat}, W.cell? ⟨b, n, none⟩ = wz.cell? ⟨b, n, none⟩ := World.cell?_of_block ((BZ.out.trans (B.mono BZ.out.size)).block b hb)
            exact ⟨h0, h1, h2, h3, h4, h5, k.trans y0, k.trans y1, k.trans y2, k.trans y3, k.trans y4, k.trans y5⟩))
          have wz1 : IntKind.i64.wrap (((i + 1 : Nat) : Int) - 1) = (i : Int) := by rw [IntKind.wrap_i64]; omega
          have wq1 : ((i + 1 : Nat) : Int) - 1 = (i : Int) := by omega
          have wi : IntKind.i64.wrap (i : Int) = (i : Int) := by rw [IntKind.wrap_i64]; omega
          have wl : (i : Int) < (i : Int) + 1 := by omega
          clear hvi hvx ru y0 y1 y2 y3 y4 y5 u1 HX RU R GX VM DM
          go_upto_region 25 with fail
          refine wp_region_noPanic ?_
          refine wp_region_held_drew (S := fun w' => w'.cell? ⟨wz.heap.size, 0, none⟩ = some (.int .u8 (X.kind : Int)) ∧ w'.cell? ⟨wz.heap.size, 1, none⟩ = some (.int .u8 (X.level : Int)) ∧ w'.cell? ⟨wz.heap.size, 2, none⟩ = some (.int .u32 (X.id : Int)) ∧ w'.cell? ⟨wz.heap.size, 3, none⟩ = some (.int .u64 (X.lsn : Int)) ∧ w'.cell? ⟨wz.heap.size, 4, none⟩ = some (.int .u32 (X.next : Int)) ∧ w'.cell? ⟨wz.heap.size, 5, none⟩ = some (.slice a2 X.rows.length c2) ∧ w'.cell? ⟨b, o + i * 6, none⟩ = some (.int .u8 (X.kind : Int)) ∧ w'.cell? ⟨b, o + i * 6 + 1, none⟩ = some (.int .u8 (X.level : Int)) ∧ w'.cell? ⟨b, o + i * 6 + 2, none⟩ = some (.int .u32 (X.id : Int)) ∧ w'.cell? ⟨b, o + i * 6 + 3, none⟩ = some (.int .u64 (X.lsn : Int)) ∧ w'.cell? ⟨b, o + i * 6 + 4, none⟩ = some (.int .u32 (X.next : Int)) ∧ w'.cell? ⟨b, o + i * 6 + 5, none⟩ = some (.slice a3 X.rows.length c3)) (by kernel_rfl) (SC.out _ (Below.refl _ _).drew) (fun hHeld => ?_)
          refine wpAnyH_take (i := 0) (v := ?_) rfl (by kernel_rfl) (by kernel_rfl) (by kernel_rfl) (fun _ _ _ h => h) (Or.inl ⟨by rfl, ?_⟩) hHeld ?_
          rotate_left
          · (intro w hSw; (try dsimp only at hSw); go_simp; (try with_reducible rfl))
          simp only [List.getElem_toArray, List.getElem_cons_zero, Act.put, List.setIfInBounds_toArray, List.set_cons_zero, List.set_cons_succ]
          refine wpAnyH_take (i := 1) (v := ?_) rfl (by kernel_rfl) (by kernel_rfl) (by kernel_rfl) (fun _ _ _ h => h) (Or.inl ⟨by rfl, ?_⟩) hHeld ?_
          rotate_left
          · (intro w hSw; (try dsimp only at hSw); go_simp; (try with_reducible rfl))
          simp only [List.getElem_toArray, List.getElem_cons_succ, List.getElem_cons_zero, Act.put, List.setIfInBounds_toArray, List.set_cons_zero, List.set_cons_succ]
          refine wpAnyH_take (i := 2) (v := ?_) rfl (by kernel_rfl) (by kernel_rfl) (by kernel_rfl) (fun _ _ _ h => h) (Or.inl ⟨by rfl, ?_⟩) hHeld ?_
          rotate_left
          · (intro w hSw; (try dsimp only at hSw); go_simp; (try with_reducible rfl))
          simp only [List.getElem_toArray, List.getElem_cons_succ, List.getElem_cons_zero, Act.put, List.setIfInBounds_toArray, List.set_cons_zero, List.set_cons_succ]
          refine wpAnyH_take (i := 3) (v := ?_) rfl (by kernel_rfl) (by kernel_rfl) (by kernel_rfl) (fun _ _ _ h => h) (Or.inl ⟨by rfl, ?_⟩) hHeld ?_
          rotate_left
          · (intro w hSw; (try dsimp only at hSw); go_simp; (try with_reducible rfl))
          simp only [List.getElem_toArray, List.getElem_cons_succ, List.getElem_cons_zero, Act.put, List.setIfInBounds_toArray, List.set_cons_zero, List.set_cons_succ]
          refine wpAnyH_take (i := 4) (v := ?_) rfl (by kernel_rfl) (by kernel_rfl) (by kernel_rfl) (fun _ _ _ h => h) (Or.inl ⟨by rfl, ?_⟩) hHeld ?_
          rotate_left
          · (intro w hSw; (try dsimp only at hSw); go_simp; (try with_reducible rfl))
          simp only [List.getElem_toArray, List.getElem_cons_succ, List.getElem_cons_zero, Act.put, List.setIfInBounds_toArray, List.set_cons_zero, List.set_cons_succ]
          refine wpAnyH_take (i := 5) (v := ?_) rfl (by kernel_rfl) (by kernel_rfl) (by kernel_rfl) (fun _ _ _ h => h) (Or.inl ⟨by rfl, ?_⟩) hHeld ?_
          rotate_left
          · (intro w hSw; (try dsimp only at hSw); go_simp; (try with_reducible rfl))
          simp only [List.getElem_toArray, List.getElem_cons_succ, List.getElem_cons_zero, Act.put, List.setIfInBounds_toArray, List.set_cons_zero, List.set_cons_succ]
          refine wpAnyH_take (i := 6) (v := ?_) rfl (by kernel_rfl) (by kernel_rfl) (by kernel_rfl) (fun _ _ _ h => h) (Or.inl ⟨by rfl, ?_⟩) hHeld ?_
          rotate_left
          · (intro w hSw; (try dsimp only at hSw); go_simp; (try with_reducible rfl))
          simp only [List.getElem_toArray, List.getElem_cons_succ, List.getElem_cons_zero, Act.put, List.setIfInBounds_toArray, List.set_cons_zero, List.set_cons_succ]
          refine wpAnyH_ready (rs := [7]) (by kernel_rfl) (by simp) (AllReadyH.cons rfl (fun K hK => ?_) AllReadyH.nil)
          refine step_fnW (by rfl) (.func 25) [.tmp 111, .tmp 117] _ rfl 25 [] (by simp [Act.eval]) _ Try.func25 (by kernel_rfl) (by kernel_rfl) (KS.out _ (Below.refl _ _).drew) (by rfl) ?_
          rintro e w4 ⟨rfl, b4⟩
          refine ⟨_, rfl, ?_⟩
          have T4 := (show Below wr.heap.size wr w4 from ((Below.refl _ _).drew).trans b4)
          refine hK.out _ _ (SC.out _ T4) (fun hHeld => ?_)
          clear hK K
          simp only [List.getElem_toArray, List.getElem_cons_succ, List.getElem_cons_zero, Act.put, List.setIfInBounds_toArray, List.set_cons_zero, List.set_cons_succ]
          refine wpAnyH_take (i := 8) (v := ?_) rfl (by kernel_rfl) (by kernel_rfl) (by kernel_rfl) (fun _ _ _ h => h) (Or.inl ⟨by rfl, ?_⟩) hHeld ?_
          rotate_left
          · (intro w hSw; (try dsimp only at hSw); go_simp; (try with_reducible rfl))
          simp only [List.getElem_toArray, List.getElem_cons_succ, List.getElem_cons_zero, Act.put, List.setIfInBounds_toArray, List.set_cons_zero, List.set_cons_succ]
          refine wpAnyH_ready (rs := [9]) (by kernel_rfl) (by simp) (AllReadyH.cons rfl (fun K hK => ?_) AllReadyH.nil)
          refine step_fnW (by rfl) (.func 10) [] _ rfl 10 [] (by simp [Act.eval]) _ Try.func10 (by kernel_rfl) (by kernel_rfl) (alive_any _) (by rfl) ?_
          rintro e w5 ⟨rfl, d5⟩
          refine ⟨_, rfl, ?_⟩
          have T5 := T4.trans (d5.mono T4.size)
          refine hK.out _ _ (SC.out _ T5) (fun hHeld => ?_)
          clear hK K
          simp only [List.getElem_toArray, List.getElem_cons_succ, List.getElem_cons_zero, Act.put, List.setIfInBounds_toArray, List.set_cons_zero, List.set_cons_succ]
          refine wpAnyH_take (i := 10) (v := ?_) rfl (by kernel_rfl) (by kernel_rfl) (by kernel_rfl) (fun _ _ _ h => h) (Or.inl ⟨by rfl, ?_⟩) hHeld ?_
          rotate_left
          · (intro w hSw; (try dsimp only at hSw); go_simp; (try with_reducible rfl))
          simp only [List.getElem_toArray, List.getElem_cons_succ, List.getElem_cons_zero, Act.put, List.setIfInBounds_toArray, List.set_cons_zero, List.set_cons_succ]
          refine wpAnyH_take (i := 11) (v := ?_) rfl (by kernel_rfl) (by kernel_rfl) (by kernel_rfl) (fun _ _ _ h => h) (Or.inl ⟨by rfl, ?_⟩) hHeld ?_
          rotate_left
          · (intro w hSw; (try dsimp only at hSw); go_simp; (try with_reducible rfl))
          simp only [List.getElem_toArray, List.getElem_cons_succ, List.getElem_cons_zero, Act.put, List.setIfInBounds_toArray, List.set_cons_zero, List.set_cons_succ]
          refine wpAnyH_done (by kernel_rfl) ?_ _
          refine NoPanic.normal ?_
          go_wp2_with fail
          go_ret
          exact ⟨rfl, BW.out.trans (T5.mono BW.out.size)⟩

end Go.Proofs.Yticnbicnefnhbaa.Op
