/- Walks: tables' bytes. -/
import Derived.Test.YtadhophiannigaaCW6
namespace Go.Proofs.Ytadhophiannigaa.Rec
open Go.RowKit
attribute [local go_sem ↓] Go.wp_at_zero Go.wp_at_succ

theorem wide1_any (a : Nat) (ha : a < 18446744073709551616) (W : World) (x : Nat) (hx : W.heap[x]? = some (.cells #[.int .u64 (a : Int)] 22 (0, 0))) :
    Calls Try.prog 21 #[.slice (some ⟨x, 0, none⟩) 1 1] W fun e w' => e = .returned (.string (nb 8 a)) ∧ Below W.heap.size W w' := by
  have h := wide_any [a] hx (fun i n h => by
    match i, h with
    | 0, h => simp at h; subst h; rfl) (by simp) (fun n hn => by simp at hn; omega)
  rw [wide_one] at h
  exact h
theorem wide2_any (a b : Nat) (ha : a < 18446744073709551616) (hb : b < 18446744073709551616) (W : World) (x : Nat) (hx : W.heap[x]? = some (.cells #[.int .u64 (a : Int), .int .u64 (b : Int)] 22 (0, 0))) :
    Calls Try.prog 21 #[.slice (some ⟨x, 0, none⟩) 2 2] W fun e w' => e = .returned (.string (nb 8 a ++ nb 8 b)) ∧ Below W.heap.size W w' := by
  have h := wide_any [a, b] hx (fun i n h => by
    match i, h with
    | 0, h => simp at h; subst h; rfl
    | 1, h => simp at h; subst h; rfl) (by simp) (fun n hn => by simp at hn; omega)
  rw [wide_two] at h
  exact h
theorem wide4_any (a b c d : Nat) (ha : a < 18446744073709551616) (hb : b < 18446744073709551616) (hc : c < 18446744073709551616) (hd : d < 18446744073709551616) (W : World) (x : Nat) (hx : W.heap[x]? = some (.cells #[.int .u64 (a : Int), .int .u64 (b : Int), .int .u64 (c : Int), .int .u64 (d : Int)] 22 (0, 0))) :
    Calls Try.prog 21 #[.slice (some ⟨x, 0, none⟩) 4 4] W fun e w' => e = .returned (.string (nb 8 a ++ nb 8 b ++ nb 8 c ++ nb 8 d)) ∧ Below W.heap.size W w' := by
  have h := wide_any [a, b, c, d] hx (fun i n h => by
    match i, h with
    | 0, h => simp at h; subst h; rfl
    | 1, h => simp at h; subst h; rfl
    | 2, h => simp at h; subst h; rfl
    | 3, h => simp at h; subst h; rfl) (by simp) (fun n hn => by simp at hn; omega)
  rw [wide_four] at h
  exact h

/-- the tables' box, and the box of a page of theirs -/
structure Db (W0 w : World) (g : Nat) (r : Rc) (d t : Value) (b : Nat) (q : Di) : Prop where
  t : Tb W0 w g r d t
  box : w.heap[b]? = some (.cells #[.int .u32 (q.page : Int), .int .u64 (q.lsn : Int)] 55 (0, 0))
theorem Db.later {W0 w w' : World} {g : Nat} {r : Rc} {d t : Value} {b : Nat} {q : Di} (h : Db W0 w g r d t b q) (c : Below w.heap.size w w') : Db W0 w' g r d t b q := ⟨h.t.later c, (c.block b (Array.getElem?_eq_some_iff.1 h.box).1).trans h.box⟩
theorem Db.make {W0 w : World} {g : Nat} {r : Rc} {d t : Value} (h : Tb W0 w g r d t) (q : Di) : Db W0 (w.alloc (.cells #[.int .u32 (q.page : Int), .int .u64 (q.lsn : Int)] 55)) g r d t w.heap.size q := ⟨h.later (below_new w _), heap_alloc_new _ _⟩
theorem Db.two {W0 w : World} {g : Nat} {r : Rc} {d t : Value} {b : Nat} {q : Di} (h : Db W0 w g r d t b q) : w.cell? ⟨b, 0, none⟩ = some (.int .u32 (q.page : Int)) ∧ w.cell? ⟨b, 1, none⟩ = some (.int .u64 (q.lsn : Int)) := by
  constructor <;> (rw [cell_of_row _ _ _ _ _ _ h.box]; rfl)
structure Ab (W0 w : World) (g : Nat) (r : Rc) (d t : Value) (b : Nat) (q : Ac) : Prop where
  t : Tb W0 w g r d t
  box : w.heap[b]? = some (.cells #[.int .u64 (q.tx : Int), .int .u64 (q.first : Int), .int .u64 (q.last : Int), .int .u64 (q.next : Int)] 57 (0, 0))
theorem Ab.later {W0 w w' : World} {g : Nat} {r : Rc} {d t : Value} {b : Nat} {q : Ac} (h : Ab W0 w g r d t b q) (c : Below w.heap.size w w') : Ab W0 w' g r d t b q := ⟨h.t.later c, (c.block b (Array.getElem?_eq_some_iff.1 h.box).1).trans h.box⟩
theorem Ab.make {W0 w : World} {g : Nat} {r : Rc} {d t : Value} (h : Tb W0 w g r d t) (q : Ac) : Ab W0 (w.alloc (.cells #[.int .u64 (q.tx : Int), .int .u64 (q.first : Int), .int .u64 (q.last : Int), .int .u64 (q.next : Int)] 57)) g r d t w.heap.size q := ⟨h.later (below_new w _), heap_alloc_new _ _⟩
theorem Ab.four {W0 w : World} {g : Nat} {r : Rc} {d t : Value} {b : Nat} {q : Ac} (h : Ab W0 w g r d t b q) : w.cell? ⟨b, 0, none⟩ = some (.int .u64 (q.tx : Int)) ∧ w.cell? ⟨b, 1, none⟩ = some (.int .u64 (q.first : Int)) ∧ w.cell? ⟨b, 2, none⟩ = some (.int .u64 (q.last : Int)) ∧ w.cell? ⟨b, 3, none⟩ = some (.int .u64 (q.next : Int)) := by
  refine ⟨?_, ?_, ?_, ?_⟩ <;> (rw [cell_of_row _ _ _ _ _ _ h.box]; rfl)
theorem no_right (s : ByteArray) : s ++ (⟨#[]⟩ : ByteArray) = s := by simp [ByteArray.ext_iff]
theorem kept {w w' : World} {o : Obj} (b : Below (w.alloc o).heap.size (w.alloc o) w') : w'.heap[w.heap.size]? = some o := (b.block w.heap.size (by simp)).trans (heap_alloc_new w o)

theorem kept_drew {w w' : World} {o : Obj} (b : Below (w.alloc o).drew.heap.size (w.alloc o).drew w') : w'.heap[w.heap.size]? = some o := (b.block w.heap.size (show w.heap.size < (w.alloc o).heap.size by simp)).trans (heap_alloc_new w o)
theorem new_drew (w : World) (o : Obj) : (w.drew.alloc o).heap[w.heap.size]? = some o := heap_alloc_new w.drew o
theorem small {x y : Nat} (h : x + y ≤ 9223372036854775807) : (9223372036854775807 < x + y) = False := by simp only [eq_iff_iff, iff_false]; omega

set_option maxRecDepth 100000 in
set_option maxHeartbeats 4000000 in
theorem tab_any {w : World} {r : Rc} {d t : Value} (h : InR w r d t) (l1 : r.dirty.length ≤ 200) (l2 : r.txns.length ≤ 200) :
    Calls Try.prog 22 #[tabV r d t] w fun e w' => e = .returned (.string (tabS r)) ∧ Below w.heap.size w w' := by
  have T0 := Lib.hid (Tb.start w r d t)
  have H := Lib.hid h
  have ET := Lib.hid (show tabS r = nb 8 r.ttx ++ nb 8 r.tnum ++ nb 1 r.dirty.length ++ disS r.dirty ++ nb 1 r.txns.length ++ acsS r.txns from rfl)
  obtain ⟨ad, c, e1⟩ := h.di.form
  obtain ⟨ad2, c2, e2⟩ := h.ac.form
  obtain ⟨n, hn⟩ : ∃ n, n = r.dirty.length := ⟨_, rfl⟩
  obtain ⟨m, hm⟩ : ∃ m, m = r.txns.length := ⟨_, rfl⟩
  have N := Lib.hid hn
  have M := Lib.hid hm
  rw [← hn] at l1 e1
  rw [← hm] at l2 e2
  have ZD := Lib.hid (show ∀ k, k ≤ n → (disS (r.dirty.take k)).size = 12 * k from fun k hk => by rw [dis_size, List.length_take]; omega)
  have ZA := Lib.hid (show ∀ k, k ≤ m → (acsS (r.txns.take k)).size = 32 * k from fun k hk => by rw [acs_size, List.length_take]; omega)
  have K0 := Lib.hid (wide2_any r.ttx r.tnum h.wf.ttx h.wf.tnum)
  have K1 := Lib.hid (fun W => (show Calls Try.prog 20 #[.int .u64 (n : Int), .int .i64 1] W fun e w' => e = .returned (.string (nb 1 n)) ∧ Below W.heap.size W w' from number_any n 1 W (by decide) (by decide) (by omega)))
  have K2 := Lib.hid (fun W => (show Calls Try.prog 20 #[.int .u64 (m : Int), .int .i64 1] W fun e w' => e = .returned (.string (nb 1 m)) ∧ Below W.heap.size W w' from number_any m 1 W (by decide) (by decide) (by omega)))
  clear h hn hm
  subst e1 e2
  have q1 : IntKind.u64.wrap (n : Int) = n := by rw [IntKind.wrap_u64]; omega
  have q2 : IntKind.u64.wrap (m : Int) = m := by rw [IntKind.wrap_u64]; omega
  obtain ⟨A0, hA0⟩ : ∃ x, x = nb 8 r.ttx ++ nb 8 r.tnum := ⟨_, rfl⟩
  obtain ⟨A1, hA1⟩ : ∃ x, x = nb 1 n := ⟨_, rfl⟩
  obtain ⟨A2, hA2⟩ : ∃ x, x = nb 1 m := ⟨_, rfl⟩
  have z0 : A0.size = 16 := by rw [hA0, ByteArray.size_append, nb_size, nb_size]
  have z1 : A1.size = 1 := by rw [hA1, nb_size]
  have z2 : A2.size = 1 := by rw [hA2, nb_size]
  rw [← hA0] at K0
  rw [← hA1] at K1
  rw [← hA2] at K2
  have EE : Hid (tabS r = A0 ++ A1 ++ disS r.dirty ++ A2 ++ acsS r.txns) := Lib.hid (by rw [hA0, hA1, hA2, ET.out, N.out, M.out])
  clear hA0 hA1 hA2 ET
  generalize tabS r = res at *
  have s0 := small (x := A0.size) (y := A1.size) (by omega)
  obtain ⟨a0, a1, a2, a3⟩ := T0.out.all
  unfold tabV tabC at *
  go_enter Try.func22, Try.ntmps22
  go_upto_region 1 with fail
  generalize hg : w.heap.size = g at *
  go_cut [3] (fun s wx => s = .string (A0 ++ A1) ∧ Tb w wx g r (.slice ad n c) (.slice ad2 m c2))
  case first =>
    clear a0 a1 a2 a3
    generalize w.alloc _ = W0 at *
    have T1 := Lib.hid (T0.out.later ((Below.refl _ _).drew))
    go_region_held3 (fun w' => (w'.cell? ⟨g, 0, none⟩ = some ((.slice ad n c)) ∧ w'.cell? ⟨g, 1, none⟩ = some ((.slice ad2 m c2)) ∧ w'.cell? ⟨g, 2, none⟩ = some (.int .u64 (r.ttx : Int)) ∧ w'.cell? ⟨g, 3, none⟩ = some (.int .u64 (r.tnum : Int)))) (first | exact T1.out.all | exact T2.all | exact (T1.out.later (below_new _ _)).all | exact T3.all)
      (first
        | (go_at_call 21; refine (K0.out _ _ ?_).mono ?_; (first | exact heap_alloc_new _ _ | exact new_drew _ _); rintro e w2 ⟨rfl, b2⟩; have T2 := (T1.out.later (below_new _ _)).later b2; clear b2)
        | (go_at_call 20; (with_reducible refine (K1.out _).mono ?_); rintro e w3 ⟨rfl, b2⟩; have T3 := T2.later b2; clear b2))
    go_wp2_with fail
    go_meet
    exact ⟨rfl, T3⟩
  case rest =>
    obtain ⟨rfl, T4⟩ := hcut
    rename_i wx _
    have T5 := Lib.hid T4
    clear T0 T4 a0 a1 a2 a3 K0 K1
    obtain ⟨a0, a1, a2, a3⟩ := T5.out.all
    go_wp2_with fail
    clear a0 a1 a2 a3
    have EN : Hid (A0 ++ A1 = A0 ++ A1 ++ disS (r.dirty.take 0)) := Lib.hid (by rw [List.take_zero]; exact (no_right _).symm)
    go_loopw [3, 23] (fun s i wr => ∃ k : Nat, k ≤ n ∧ i = .int .i64 (k : Int) ∧ s = .string (A0 ++ A1 ++ disS (r.dirty.take k)) ∧ Tb w wr g r (.slice ad n c) (.slice ad2 m c2)) (fun _ i _ => n - (intOf i).toNat)
    case atStart => exact ⟨0, by omega, rfl, by rw [← EN.out], T5.out⟩
    case round =>
      obtain ⟨k, hk, rfl, rfl, T6⟩ := hrel
      have T7 := Lib.hid T6
      clear T6 T5 EN
      by_cases hlt : k < n
      · have hlt2 : k < r.dirty.length := by rw [← N.out]; exact hlt
        obtain ⟨x, o, cap', hv, hat⟩ := (H.out.di.later T7.out.below).at hlt2
        simp only [Value.slice.injEq] at hv
        obtain ⟨rfl, e9, rfl⟩ := hv
        clear e9
        have hw := H.out.wf.each k r.dirty[k] (List.getElem?_eq_getElem hlt2)
        have hz := ZD.out k (by omega)
        have TK := Lib.hid (show A0 ++ A1 ++ disS (r.dirty.take (k + 1)) = A0 ++ A1 ++ disS (r.dirty.take k) ++ (nb 4 r.dirty[k].page ++ nb 8 r.dirty[k].lsn) by rw [List.take_succ_eq_append_getElem hlt2, dis_snoc]; simp only [diS, ByteArray.append_assoc])
        generalize r.dirty[k] = q at *
        have K4 := Lib.hid (fun W => (show Calls Try.prog 20 #[.int .u64 (q.page : Int), .int .i64 4] W fun e w' => e = .returned (.string (nb 4 q.page)) ∧ Below W.heap.size W w' from number_any q.page 4 W (by decide) (by decide) (by have := hw.page; omega)))
        have K5 := Lib.hid (wide1_any q.lsn hw.lsn)
        have qp : IntKind.u64.wrap (q.page : Int) = q.page := by have := hw.page; rw [IntKind.wrap_u64]; omega
        have y1 := nb_size 4 q.page
        have y2 := nb_size 8 q.lsn
        generalize nb 4 q.page = Y1 at *
        generalize nb 8 q.lsn = Y2 at *
        obtain ⟨P, hP⟩ : ∃ P, P = A0 ++ A1 ++ disS (r.dirty.take k) := ⟨_, rfl⟩
        have zp : P.size ≤ 3000 := by rw [hP, ByteArray.size_append, ByteArray.size_append]; omega
        rw [← hP] at TK ⊢
        clear hP hz hw hlt2
        have s1 := small (x := Y1.size) (y := Y2.size) (by omega)
        have s2 := small (x := P.size) (y := Y1.size + Y2.size) (by omega)
        clear y1 y2
        obtain ⟨c0, c1⟩ := hat
        go_upto_region 5 with fail
        have D1 := Lib.hid (Db.make T7.out q)
        generalize hb : wr.heap.size = b at *
        clear c0 c1 T7
        generalize wr.alloc _ = W0 at *
        have D2 := Lib.hid (D1.out.later ((Below.refl _ _).drew))
        go_region_held3 (fun w' => w'.cell? ⟨b, 0, none⟩ = some (.int .u32 (q.page : Int)) ∧ w'.cell? ⟨b, 1, none⟩ = some (.int .u64 (q.lsn : Int))) (first | exact D2.out.two | exact D3.two | exact (D2.out.later (below_new _ _)).two | exact (D3.later (below_new _ _)).two | exact D4.two)
          (first
            | (go_at_call 20; refine (K4.out _).mono ?_; rintro e w2 ⟨rfl, b2⟩; (first | have D3 := D2.out.later b2 | have D3 := (D2.out.later (below_new _ _)).later b2))
            | (go_at_call 21; refine (K5.out _ _ ?_).mono ?_; (first | exact heap_alloc_new _ _ | exact new_drew _ _ | exact kept b2 | exact kept_drew b2); rintro e w3 ⟨rfl, b3⟩; (first | have D4 := D3.later b3 | have D4 := (D3.later (below_new _ _)).later b3)))
        all_goals
          have T9 := Lib.hid D4.t
          clear D2 D3 D4 b2 b3 K4 K5
          go_wp2_with fail
          rw [← TK.out]
          go_roundw
          case rel => exact ⟨k + 1, by omega, by go_num, rfl, T9.out⟩
          case measure => simp [intOf]; omega
      · obtain rfl : k = n := by omega
        have e : r.dirty.take k = r.dirty := List.take_of_length_le (by rw [← N.out]; exact Nat.le_refl _)
        rw [e]
        have hz := ZD.out k (by omega)
        rw [e] at hz
        obtain ⟨P, hP⟩ : ∃ P, P = A0 ++ A1 ++ disS r.dirty := ⟨_, rfl⟩
        have zp : P.size ≤ 3000 := by rw [hP, ByteArray.size_append, ByteArray.size_append]; omega
        have E2 : Hid (res = P ++ A2 ++ acsS r.txns) := Lib.hid (by rw [EE.out, hP])
        rw [← hP]
        clear hP hz EE ZD e
        have s1 := small (x := P.size) (y := A2.size) (by omega)
        have zpa : (P ++ A2).size ≤ 3001 := by rw [ByteArray.size_append]; omega
        clear z0 z1 z2
        obtain ⟨a0, a1, a2, a3⟩ := T7.out.all
        go_wp2_with fail
        refine (K2.out _).mono ?_
        rintro e w2 ⟨rfl, b2⟩
        have T8 := Lib.hid (T7.out.later b2)
        clear b2 T7 K2 a0 a1 a2 a3
        obtain ⟨a0, a1, a2, a3⟩ := T8.out.all
        go_wp2_with fail
        clear a0 a1 a2 a3 s1
        obtain ⟨R, hR⟩ : ∃ R, R = P ++ A2 := ⟨_, rfl⟩
        rw [← hR] at E2 zpa ⊢
        clear hR zp
        have EN : Hid (R = R ++ acsS (r.txns.take 0)) := Lib.hid (by rw [List.take_zero]; exact (no_right _).symm)
        go_loopw [3, 49] (fun s i wr => ∃ j : Nat, j ≤ m ∧ i = .int .i64 (j : Int) ∧ s = .string (R ++ acsS (r.txns.take j)) ∧ Tb w wr g r (.slice ad k c) (.slice ad2 m c2)) (fun _ i _ => m - (intOf i).toNat)
        case atStart => exact ⟨0, by omega, rfl, by rw [← EN.out], T8.out⟩
        case round =>
          obtain ⟨j, hj, rfl, rfl, T9⟩ := hrel
          have T10 := Lib.hid T9
          clear T9 T8 EN
          by_cases hlt : j < m
          · have hlt2 : j < r.txns.length := by rw [← M.out]; exact hlt
            obtain ⟨x, o, cap', hv, hat⟩ := (H.out.ac.later T10.out.below).at hlt2
            simp only [Value.slice.injEq] at hv
            obtain ⟨rfl, e9, rfl⟩ := hv
            clear e9
            have hw := H.out.wf.eacht j r.txns[j] (List.getElem?_eq_getElem hlt2)
            have hz := ZA.out j (by omega)
            have TK := Lib.hid (show R ++ acsS (r.txns.take (j + 1)) = R ++ acsS (r.txns.take j) ++ acS r.txns[j] by rw [List.take_succ_eq_append_getElem hlt2, acs_snoc]; simp only [acS, ByteArray.append_assoc])
            generalize r.txns[j] = q at *
            have K5 := Lib.hid (fun W x hx => (show Calls Try.prog 21 #[.slice (some ⟨x, 0, none⟩) 4 4] W fun e w' => e = .returned (.string (acS q)) ∧ Below W.heap.size W w' from wide4_any q.tx q.first q.last q.next hw.tx hw.first hw.last hw.next W x hx))
            have y1 := ac_size q
            generalize acS q = Y at *
            obtain ⟨P, hP⟩ : ∃ P, P = R ++ acsS (r.txns.take j) := ⟨_, rfl⟩
            have zp : P.size ≤ 10000 := by rw [hP, ByteArray.size_append]; omega
            rw [← hP] at TK ⊢
            clear hP hz hw hlt2
            have s1 := small (x := P.size) (y := Y.size) (by omega)
            clear y1
            obtain ⟨c0, c1, c2, c3⟩ := hat
            go_upto_region 11 with fail
            have D1 := Lib.hid (Ab.make T10.out q)
            generalize hb : wr.heap.size = b at *
            clear c0 c1 c2 c3 T10
            generalize wr.alloc _ = W0 at *
            obtain ⟨c0, c1, c2, c3⟩ := D1.out.four
            go_wp2_with fail
            refine (K5.out _ _ ?_).mono ?_
            · first | exact heap_alloc_new _ _ | exact new_drew _ _
            rintro e w3 ⟨rfl, b3⟩
            have T9 := Lib.hid ((D1.out.later (below_new _ _)).later b3).t
            clear c0 c1 c2 c3 D1 b3 K5
            go_wp2_with fail
            rw [← TK.out]
            go_roundw
            case rel => exact ⟨j + 1, by omega, by go_num, rfl, T9.out⟩
            case measure => simp [intOf]; omega
          · obtain rfl : j = m := by omega
            have e : r.txns.take j = r.txns := List.take_of_length_le (by rw [← M.out]; exact Nat.le_refl _)
            rw [e, ← E2.out]
            clear e
            go_wp2_with fail
            go_ret
            exact ⟨rfl, T10.out.below⟩

end Go.Proofs.Ytadhophiannigaa.Rec
