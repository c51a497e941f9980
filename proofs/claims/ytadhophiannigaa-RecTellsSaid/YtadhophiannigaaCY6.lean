/- Walks: the document's bytes of a record. -/
import Derived.Test.YtadhophiannigaaCY5
namespace Go.Proofs.Ytadhophiannigaa.Rec
open Go.RowKit
attribute [local go_sem ↓] Go.wp_at_zero Go.wp_at_succ

/-- tables' box, and a row -/
structure De (W0 w : World) (g : Nat) (r : Rc) (d t : Value) (x o : Nat) (q : Di) : Prop where
  t : Tb W0 w g r d t
  e : DiAt w x o q
theorem De.later {W0 w w' : World} {g : Nat} {r : Rc} {d t : Value} {x o : Nat} {q : Di} (h : De W0 w g r d t x o q) (c : Below w.heap.size w w') : De W0 w' g r d t x o q := ⟨h.t.later c, h.e.far (c.block x (block_lt_of_cell h.e.c0))⟩
theorem De.all {W0 w : World} {g : Nat} {r : Rc} {d t : Value} {x o : Nat} {q : Di} (h : De W0 w g r d t x o q) : (w.cell? ⟨g, 0, none⟩ = some (d) ∧ w.cell? ⟨g, 1, none⟩ = some (t) ∧ w.cell? ⟨g, 2, none⟩ = some (.int .u64 (r.ttx : Int)) ∧ w.cell? ⟨g, 3, none⟩ = some (.int .u64 (r.tnum : Int))) ∧ w.cell? ⟨x, o, none⟩ = some (.int .u32 (q.page : Int)) ∧ w.cell? ⟨x, o + 1, none⟩ = some (.int .u64 (q.lsn : Int)) := ⟨h.t.all, h.e.c0, h.e.c1⟩

set_option maxRecDepth 100000 in
set_option maxHeartbeats 1000000 in
theorem rencode_no {w : World} {r : Rc} {d t : Value} (h : InR w r d t) (hm : mayC r = false) :
    Calls Try.prog 11 #[recV r d t] w fun e w' => e = .returned (.string (encS r)) ∧ Below w.heap.size w w' := by
  have e2 : encS r = ⟨#[]⟩ := by unfold encS; rw [if_neg (by rw [hm]; decide)]
  rw [e2]
  have T0 := Lib.hid (Bx.start w r d t)
  have K := Lib.hid (by have := rmay_any (h.later T0.out.below); rw [hm] at this; exact this)
  clear h hm e2
  obtain ⟨a0, a1, a2, a3, a4, a5, a6, a7, a8, a9, a10, a11⟩ := T0.out.all
  unfold recV recC at *
  go_enter Try.func11, Try.ntmps11
  go_wp2_with fail
  refine K.out.mono ?_
  rintro e w1 ⟨rfl, b⟩
  have B1 := Lib.hid (T0.out.later b).below
  clear b T0 K a0 a1 a2 a3 a4 a5 a6 a7 a8 a9 a10 a11
  go_wp2_with fail
  go_ret
  exact ⟨rfl, B1.out⟩

theorem putk (n m : Nat) (h1 : 1 ≤ m) (h8 : m ≤ 8) (hn : n < 256 ^ m) : ∀ W : World, Calls Try.prog 23 #[.int .u64 (n : Int), .int .i64 (m : Int)] W fun e w' => e = .returned (.string (nb m n)) ∧ Below W.heap.size W w' := fun W => rnumber_any n m W h1 h8 hn
theorem put8 (n : Nat) (hn : n < 18446744073709551616) : ∀ W : World, Calls Try.prog 23 #[.int .u64 (n : Int), .int .i64 8] W fun e w' => e = .returned (.string (nb 8 n)) ∧ Below W.heap.size W w' := putk n 8 (by decide) (by decide) hn
theorem put1 (n : Nat) (hn : n < 256) : ∀ W : World, Calls Try.prog 23 #[.int .u64 (n : Int), .int .i64 1] W fun e w' => e = .returned (.string (nb 1 n)) ∧ Below W.heap.size W w' := putk n 1 (by decide) (by decide) (by omega)
theorem put4 (n : Nat) (hn : n < 4294967296) : ∀ W : World, Calls Try.prog 23 #[.int .u64 (n : Int), .int .i64 4] W fun e w' => e = .returned (.string (nb 4 n)) ∧ Below W.heap.size W w' := putk n 4 (by decide) (by decide) (by omega)
theorem put2 (n : Nat) (hn : n < 65536) : ∀ W : World, Calls Try.prog 23 #[.int .u64 (n : Int), .int .i64 2] W fun e w' => e = .returned (.string (nb 2 n)) ∧ Below W.heap.size W w' := putk n 2 (by decide) (by decide) (by omega)

set_option maxRecDepth 100000 in
set_option maxHeartbeats 4000000 in
theorem rencode_yes {w : World} {r : Rc} {d t : Value} (h : InR w r d t) (hm : mayC r = true) :
    Calls Try.prog 11 #[recV r d t] w fun e w' => e = .returned (.string (encS r)) ∧ Below w.heap.size w w' := by
  obtain ⟨l1, l2, l3⟩ := may_lens hm
  obtain ⟨y1, y2, y3, y4, y5⟩ := may_zero hm
  have T0 := Lib.hid (Bx.start w r d t)
  have H := Lib.hid h
  have K := Lib.hid (by have := rmay_any (h.later T0.out.below); rw [hm] at this; exact this)
  have K1 := Lib.hid (put1 r.kind h.wf.kind)
  have K2 := Lib.hid (put8 r.tx h.wf.tx)
  have K3 := Lib.hid (put8 r.prev h.wf.prev)
  have e : encS r = nb 1 r.kind ++ nb 8 r.tx ++ nb 8 r.prev ++ midS r ++ r.body := by unfold encS; rw [if_pos hm]; simp only [bodyS, headS, ByteArray.append_assoc]
  have BZ := Lib.hid y5
  have qk : IntKind.u64.wrap (r.kind : Int) = r.kind := by have := h.wf.kind; rw [IntKind.wrap_u64]; omega
  obtain ⟨ad, cc, ed⟩ := h.di.form
  obtain ⟨ad2, cc2, et⟩ := h.ac.form
  clear hm y1 y2 y3 y4 y5
  subst ed et
  obtain ⟨a0, a1, a2, a3, a4, a5, a6, a7, a8, a9, a10, a11⟩ := T0.out.all
  have z1 := nb_size 1 r.kind
  have z2 := nb_size 8 r.tx
  have z3 := nb_size 8 r.prev
  generalize encS r = res at *
  generalize nb 1 r.kind = A1 at *
  generalize nb 8 r.tx = A2 at *
  generalize nb 8 r.prev = A3 at *
  have s1 := small (x := A1.size) (y := A2.size) (by omega)
  have s2 := small (x := A1.size + A2.size) (y := A3.size) (by omega)
  obtain ⟨P, hP⟩ : ∃ P, P = A1 ++ A2 ++ A3 := ⟨_, rfl⟩
  have zp : P.size = 17 := by rw [hP, ByteArray.size_append, ByteArray.size_append]; omega
  rw [← hP] at e
  have E := Lib.hid e
  clear e z1 z2 z3 h
  unfold recV recC at *
  go_enter Try.func11, Try.ntmps11
  go_wp2_with fail
  refine K.out.mono ?_
  rintro e w1 ⟨rfl, b⟩
  have T1 := Lib.hid (T0.out.later b)
  clear b T0 K a0 a1 a2 a3 a4 a5 a6 a7 a8 a9 a10 a11
  obtain ⟨a0, a1, a2, a3, a4, a5, a6, a7, a8, a9, a10, a11⟩ := T1.out.all
  go_upto_region 3 with fail
  generalize hg : w.heap.size = g at *
  go_cut [3] (fun s wx => s = .string P ∧ Bx w wx g r (.slice ad r.dirty.length cc) (.slice ad2 r.txns.length cc2))
  case first =>
    clear a0 a1 a2 a3 a4 a5 a6 a7 a8 a9 a10 a11
    have T2 := Lib.hid (T1.out.later ((Below.refl _ _).drew))
    go_region_held3 (fun w' => (w'.cell? ⟨g, 0, none⟩ = some (.int .u8 (r.kind : Int)) ∧ w'.cell? ⟨g, 1, none⟩ = some (.int .u64 (r.tx : Int)) ∧ w'.cell? ⟨g, 2, none⟩ = some (.int .u64 (r.prev : Int)) ∧ w'.cell? ⟨g, 3, none⟩ = some (.int .u32 (r.page : Int)) ∧ w'.cell? ⟨g, 4, none⟩ = some (.int .u16 (r.slot : Int)) ∧ w'.cell? ⟨g, 5, none⟩ = some (.int .u64 (r.next : Int)) ∧ w'.cell? ⟨g, 6, none⟩ = some (.int .u64 (r.number : Int)) ∧ w'.cell? ⟨g, 7, none⟩ = some (.string r.body) ∧ w'.cell? ⟨g, 8, none⟩ = some ((.slice ad r.dirty.length cc)) ∧ w'.cell? ⟨g, 9, none⟩ = some ((.slice ad2 r.txns.length cc2)) ∧ w'.cell? ⟨g, 10, none⟩ = some (.int .u64 (r.ttx : Int)) ∧ w'.cell? ⟨g, 11, none⟩ = some (.int .u64 (r.tnum : Int)))) (first | exact T2.out.all | exact T3.all | exact T4.all | exact T5.all)
      (first
        | (go_at_call 23; (with_reducible refine (K1.out _).mono ?_); rintro e w2 ⟨rfl, b2⟩; have T3 := T2.out.later b2; clear b2)
        | (go_at_call 23; (with_reducible refine (K2.out _).mono ?_); rintro e w3 ⟨rfl, b2⟩; have T4 := T3.later b2; clear b2)
        | (go_at_call 23; (with_reducible refine (K3.out _).mono ?_); rintro e w4 ⟨rfl, b2⟩; have T5 := T4.later b2; clear b2))
    go_wp2_with fail
    go_meet
    exact ⟨by rw [hP], T5⟩
  case rest =>
    obtain ⟨rfl, T2⟩ := hcut
    have T3 := Lib.hid T2
    clear T1 T2 K1 K2 K3 hP s1 s2 a0 a1 a2 a3 a4 a5 a6 a7 a8 a9 a10 a11
    obtain ⟨a0, a1, a2, a3, a4, a5, a6, a7, a8, a9, a10, a11⟩ := T3.out.all
    by_cases h2 : r.kind = 2
    · have f2 : ((r.kind : Int) == 2) = true := by rw [h2]; rfl
      have E2 := Lib.hid (show res = P ++ nb 4 r.page ++ nb 2 r.slot ++ r.body by rw [E.out, show midS r = nb 4 r.page ++ nb 2 r.slot by unfold midS; simp [h2]]; simp only [ByteArray.append_assoc])
      have K4 := Lib.hid (put4 r.page H.out.wf.page)
      have K5 := Lib.hid (put2 r.slot H.out.wf.slot)
      have qp : IntKind.u64.wrap (r.page : Int) = r.page := by have := H.out.wf.page; rw [IntKind.wrap_u64]; omega
      have qs : IntKind.u64.wrap (r.slot : Int) = r.slot := by have := H.out.wf.slot; rw [IntKind.wrap_u64]; omega
      have z4 := nb_size 4 r.page
      have z5 := nb_size 2 r.slot
      generalize nb 4 r.page = A4 at *
      generalize nb 2 r.slot = A5 at *
      have s3 := small (x := P.size) (y := A4.size) (by omega)
      have s4 := small (x := P.size + A4.size) (y := A5.size) (by omega)
      have s5 := small (x := P.size + A4.size + A5.size) (y := r.body.size) (by omega)
      clear E BZ z4 z5 zp l3
      go_wp2_with fail
      clear a0 a1 a2 a3 a4 a5 a6 a7 a8 a9 a10 a11
      have T4 := Lib.hid (T3.out.later ((Below.refl _ _).drew))
      go_region_held3 (fun w' => (w'.cell? ⟨g, 0, none⟩ = some (.int .u8 (r.kind : Int)) ∧ w'.cell? ⟨g, 1, none⟩ = some (.int .u64 (r.tx : Int)) ∧ w'.cell? ⟨g, 2, none⟩ = some (.int .u64 (r.prev : Int)) ∧ w'.cell? ⟨g, 3, none⟩ = some (.int .u32 (r.page : Int)) ∧ w'.cell? ⟨g, 4, none⟩ = some (.int .u16 (r.slot : Int)) ∧ w'.cell? ⟨g, 5, none⟩ = some (.int .u64 (r.next : Int)) ∧ w'.cell? ⟨g, 6, none⟩ = some (.int .u64 (r.number : Int)) ∧ w'.cell? ⟨g, 7, none⟩ = some (.string r.body) ∧ w'.cell? ⟨g, 8, none⟩ = some ((.slice ad r.dirty.length cc)) ∧ w'.cell? ⟨g, 9, none⟩ = some ((.slice ad2 r.txns.length cc2)) ∧ w'.cell? ⟨g, 10, none⟩ = some (.int .u64 (r.ttx : Int)) ∧ w'.cell? ⟨g, 11, none⟩ = some (.int .u64 (r.tnum : Int)))) (first | exact T4.out.all | exact T5.all | exact T6.all)
        (first
          | (go_at_call 23; (with_reducible refine (K4.out _).mono ?_); rintro e w2 ⟨rfl, b2⟩; have T5 := T4.out.later b2; clear b2)
          | (go_at_call 23; (with_reducible refine (K5.out _).mono ?_); rintro e w3 ⟨rfl, b2⟩; have T6 := T5.later b2; clear b2))
      go_wp2_with fail
      go_ret
      exact ⟨by rw [E2.out]; rfl, T6.below⟩
    have f2 : ((r.kind : Int) == 2) = false := num_no h2
    by_cases h6 : r.kind = 6
    · have f6 : ((r.kind : Int) == 6) = true := by rw [h6]; rfl
      have E2 := Lib.hid (show res = P ++ r.body by rw [E.out, show midS r = ⟨#[]⟩ by unfold midS; simp [h6], no_r])
      have s3 := small (x := P.size) (y := r.body.size) (by omega)
      clear E BZ zp l3
      go_wp2_with fail
      go_ret
      exact ⟨by rw [E2.out]; rfl, T3.out.below⟩
    have f6 : ((r.kind : Int) == 6) = false := num_no h6
    by_cases h3 : r.kind = 3
    · have f3 : ((r.kind : Int) == 3) = true := by rw [h3]; rfl
      have E2 := Lib.hid (show res = P ++ nb 8 r.next ++ r.body by rw [E.out, show midS r = nb 8 r.next by unfold midS; simp [h3]])
      have K4 := Lib.hid (put8 r.next H.out.wf.next)
      have z4 := nb_size 8 r.next
      generalize nb 8 r.next = A4 at *
      have s3 := small (x := P.size) (y := A4.size) (by omega)
      have s4 := small (x := P.size + A4.size) (y := r.body.size) (by omega)
      clear E BZ z4 zp l3
      go_wp2_with fail
      clear a0 a1 a2 a3 a4 a5 a6 a7 a8 a9 a10 a11
      have T4 := Lib.hid (T3.out.later ((Below.refl _ _).drew))
      go_region_held3 (fun w' => (w'.cell? ⟨g, 0, none⟩ = some (.int .u8 (r.kind : Int)) ∧ w'.cell? ⟨g, 1, none⟩ = some (.int .u64 (r.tx : Int)) ∧ w'.cell? ⟨g, 2, none⟩ = some (.int .u64 (r.prev : Int)) ∧ w'.cell? ⟨g, 3, none⟩ = some (.int .u32 (r.page : Int)) ∧ w'.cell? ⟨g, 4, none⟩ = some (.int .u16 (r.slot : Int)) ∧ w'.cell? ⟨g, 5, none⟩ = some (.int .u64 (r.next : Int)) ∧ w'.cell? ⟨g, 6, none⟩ = some (.int .u64 (r.number : Int)) ∧ w'.cell? ⟨g, 7, none⟩ = some (.string r.body) ∧ w'.cell? ⟨g, 8, none⟩ = some ((.slice ad r.dirty.length cc)) ∧ w'.cell? ⟨g, 9, none⟩ = some ((.slice ad2 r.txns.length cc2)) ∧ w'.cell? ⟨g, 10, none⟩ = some (.int .u64 (r.ttx : Int)) ∧ w'.cell? ⟨g, 11, none⟩ = some (.int .u64 (r.tnum : Int)))) (first | exact T4.out.all | exact T5.all)
        (first
          | (go_at_call 23; (with_reducible refine (K4.out _).mono ?_); rintro e w2 ⟨rfl, b2⟩; have T5 := T4.out.later b2; clear b2))
      go_wp2_with fail
      go_ret
      exact ⟨by rw [E2.out]; rfl, T5.below⟩
    have f3 : ((r.kind : Int) == 3) = false := num_no h3
    by_cases h4 : r.kind = 4
    · have f4 : ((r.kind : Int) == 4) = true := by rw [h4]; rfl
      have E2 := Lib.hid (show res = P ++ nb 8 r.number ++ r.body by rw [E.out, show midS r = nb 8 r.number by unfold midS; simp [h4]])
      have K4 := Lib.hid (put8 r.number H.out.wf.number)
      have z4 := nb_size 8 r.number
      generalize nb 8 r.number = A4 at *
      have s3 := small (x := P.size) (y := A4.size) (by omega)
      have s4 := small (x := P.size + A4.size) (y := r.body.size) (by omega)
      clear E BZ z4 zp l3
      go_wp2_with fail
      clear a0 a1 a2 a3 a4 a5 a6 a7 a8 a9 a10 a11
      have T4 := Lib.hid (T3.out.later ((Below.refl _ _).drew))
      go_region_held3 (fun w' => (w'.cell? ⟨g, 0, none⟩ = some (.int .u8 (r.kind : Int)) ∧ w'.cell? ⟨g, 1, none⟩ = some (.int .u64 (r.tx : Int)) ∧ w'.cell? ⟨g, 2, none⟩ = some (.int .u64 (r.prev : Int)) ∧ w'.cell? ⟨g, 3, none⟩ = some (.int .u32 (r.page : Int)) ∧ w'.cell? ⟨g, 4, none⟩ = some (.int .u16 (r.slot : Int)) ∧ w'.cell? ⟨g, 5, none⟩ = some (.int .u64 (r.next : Int)) ∧ w'.cell? ⟨g, 6, none⟩ = some (.int .u64 (r.number : Int)) ∧ w'.cell? ⟨g, 7, none⟩ = some (.string r.body) ∧ w'.cell? ⟨g, 8, none⟩ = some ((.slice ad r.dirty.length cc)) ∧ w'.cell? ⟨g, 9, none⟩ = some ((.slice ad2 r.txns.length cc2)) ∧ w'.cell? ⟨g, 10, none⟩ = some (.int .u64 (r.ttx : Int)) ∧ w'.cell? ⟨g, 11, none⟩ = some (.int .u64 (r.tnum : Int)))) (first | exact T4.out.all | exact T5.all)
        (first
          | (go_at_call 23; (with_reducible refine (K4.out _).mono ?_); rintro e w2 ⟨rfl, b2⟩; have T5 := T4.out.later b2; clear b2))
      go_wp2_with fail
      go_ret
      exact ⟨by rw [E2.out]; rfl, T5.below⟩
    have f4 : ((r.kind : Int) == 4) = false := num_no h4
    by_cases h8 : r.kind = 8
    · have f8 : ((r.kind : Int) == 8) = true := by rw [h8]; rfl
      obtain ⟨n, hn⟩ : ∃ n, n = r.dirty.length := ⟨_, rfl⟩
      obtain ⟨m, hm⟩ : ∃ m, m = r.txns.length := ⟨_, rfl⟩
      have N := Lib.hid hn
      have M := Lib.hid hm
      have E2 := Lib.hid (show res = P ++ nb 8 r.ttx ++ nb 8 r.tnum ++ nb 1 n ++ disS r.dirty ++ nb 1 m ++ acsS r.txns by rw [hn, hm, E.out, BZ.out (by omega), show midS r = tabS r by unfold midS; simp [h8], no_r]; simp only [tabS, ByteArray.append_assoc])
      rw [← hn] at l1 H T3 ⊢
      rw [← hm] at l2 H T3 ⊢
      rw [← hn] at a8
      rw [← hm] at a9
      clear hn hm E BZ
      have ZD := Lib.hid (show ∀ k, k ≤ n → (disS (r.dirty.take k)).size = 12 * k from fun k hk => by have := N.out; rw [dis_size, List.length_take]; omega)
      have ZA := Lib.hid (show ∀ k, k ≤ m → (acsS (r.txns.take k)).size = 32 * k from fun k hk => by have := M.out; rw [acs_size, List.length_take]; omega)
      have K4 := Lib.hid (put8 r.ttx H.out.wf.ttx)
      have K5 := Lib.hid (put8 r.tnum H.out.wf.tnum)
      have K6 := Lib.hid (put1 n (by omega))
      have K7 := Lib.hid (put1 m (by omega))
      have q1 : IntKind.u64.wrap (n : Int) = n := by rw [IntKind.wrap_u64]; omega
      have q2 : IntKind.u64.wrap (m : Int) = m := by rw [IntKind.wrap_u64]; omega
      have z4 := nb_size 8 r.ttx
      have z5 := nb_size 8 r.tnum
      have z6 := nb_size 1 n
      have z7 := nb_size 1 m
      generalize nb 8 r.ttx = A4 at *
      generalize nb 8 r.tnum = A5 at *
      generalize nb 1 n = A6 at *
      generalize nb 1 m = A7 at *
      have s3 := small (x := P.size) (y := A4.size) (by omega)
      have s4 := small (x := P.size + A4.size) (y := A5.size) (by omega)
      have s5 := small (x := P.size + A4.size + A5.size) (y := A6.size) (by omega)
      obtain ⟨Q, hQ⟩ : ∃ Q, Q = P ++ A4 ++ A5 ++ A6 := ⟨_, rfl⟩
      have zq : Q.size = 34 := by rw [hQ]; simp only [ByteArray.size_append]; omega
      have E3 := Lib.hid (show res = Q ++ disS r.dirty ++ A7 ++ acsS r.txns by rw [E2.out, hQ])
      clear E2 z4 z5 z6 zp l3
      go_upto_region 15 with fail
      clear f2 f6 f3 f4 f8 h2 h6 h3 h4 h8
      have U0 := Lib.hid (Tb.make (W0 := w) r (.slice ad n cc) (.slice ad2 m cc2) T3.out.below)
      unfold tabC at U0
      generalize hb : wc.heap.size = b at *
      generalize wc.alloc _ = W1 at *
      clear a0 a1 a2 a3 a4 a5 a6 a7 a8 a9 a10 a11 T3 hb
      go_cut [3] (fun s wx => s = .string Q ∧ Tb w wx b r (.slice ad n cc) (.slice ad2 m cc2))
      case first =>
        have U1 := Lib.hid (U0.out.later ((Below.refl _ _).drew))
        go_region_held3 (fun w' => (w'.cell? ⟨b, 0, none⟩ = some ((.slice ad n cc)) ∧ w'.cell? ⟨b, 1, none⟩ = some ((.slice ad2 m cc2)) ∧ w'.cell? ⟨b, 2, none⟩ = some (.int .u64 (r.ttx : Int)) ∧ w'.cell? ⟨b, 3, none⟩ = some (.int .u64 (r.tnum : Int)))) (first | exact U1.out.all | exact U2.all | exact U3.all | exact U4.all)
          (first
            | (go_at_call 23; (with_reducible refine (K4.out _).mono ?_); rintro e w2 ⟨rfl, b2⟩; have U2 := U1.out.later b2; clear b2)
            | (go_at_call 23; (with_reducible refine (K5.out _).mono ?_); rintro e w3 ⟨rfl, b2⟩; have U3 := U2.later b2; clear b2)
            | (go_at_call 23; (with_reducible refine (K6.out _).mono ?_); rintro e w4 ⟨rfl, b2⟩; have U4 := U3.later b2; clear b2))
        go_wp2_with fail
        go_meet
        exact ⟨by rw [hQ], U4⟩
      case rest =>
        obtain ⟨rfl, U1⟩ := hcut
        have U2 := Lib.hid U1
        clear U0 U1 K4 K5 K6 s3 s4 s5 hQ
        have EN : Hid (Q = Q ++ disS (r.dirty.take 0)) := Lib.hid (by rw [List.take_zero]; exact (no_r _).symm)
        obtain ⟨b0, b1, b2, b3⟩ := U2.out.all
        go_wp2_with fail
        clear b0 b1 b2 b3
        go_loopw [3, 5] (fun s i wr => ∃ k : Nat, k ≤ n ∧ i = .int .i64 (k : Int) ∧ s = .string (Q ++ disS (r.dirty.take k)) ∧ Tb w wr b r (.slice ad n cc) (.slice ad2 m cc2)) (fun _ i _ => n - (intOf i).toNat)
        case atStart => exact ⟨0, by omega, rfl, by rw [← EN.out], U2.out⟩
        case round =>
          obtain ⟨k, hk, rfl, rfl, U3⟩ := hrel
          clear U2
          have U2 := Lib.hid U3
          clear U3 EN
          obtain ⟨b0, b1, b2, b3⟩ := U2.out.all
          by_cases hlt : k < n
          · have hlt2 : k < r.dirty.length := by rw [← N.out]; exact hlt
            obtain ⟨x, o, cap', hv, hat⟩ := (H.out.di.later U2.out.below).at hlt2
            simp only [Value.slice.injEq] at hv
            obtain ⟨rfl, e9, rfl⟩ := hv
            clear e9
            have hw := H.out.wf.each k r.dirty[k] (List.getElem?_eq_getElem hlt2)
            have hz := ZD.out k (by omega)
            have TK := Lib.hid (show Q ++ disS (r.dirty.take (k + 1)) = Q ++ disS (r.dirty.take k) ++ nb 4 r.dirty[k].page ++ nb 8 r.dirty[k].lsn by rw [List.take_succ_eq_append_getElem hlt2, dis_snoc]; simp only [diS, ByteArray.append_assoc])
            generalize r.dirty[k] = q at *
            have K4 := Lib.hid (put4 q.page hw.page)
            have K5 := Lib.hid (put8 q.lsn hw.lsn)
            have qp : IntKind.u64.wrap (q.page : Int) = q.page := by have := hw.page; rw [IntKind.wrap_u64]; omega
            have y1 := nb_size 4 q.page
            have y2 := nb_size 8 q.lsn
            generalize nb 4 q.page = Y1 at *
            generalize nb 8 q.lsn = Y2 at *
            obtain ⟨R, hR⟩ : ∃ R, R = Q ++ disS (r.dirty.take k) := ⟨_, rfl⟩
            have zr : R.size ≤ 3000 := by rw [hR, ByteArray.size_append]; omega
            rw [← hR] at TK ⊢
            clear hR hz hw hlt2
            have s1 := small (x := R.size) (y := Y1.size) (by omega)
            have s2 := small (x := R.size + Y1.size) (y := Y2.size) (by omega)
            clear y1 y2
            go_wp2_with fail
            clear b0 b1 b2 b3
            have D2 := Lib.hid (De.later ⟨U2.out, hat⟩ ((Below.refl _ _).drew))
            clear hat
            go_region_held3 (fun w' => (w'.cell? ⟨b, 0, none⟩ = some ((.slice (some ⟨x, o, none⟩) n cc)) ∧ w'.cell? ⟨b, 1, none⟩ = some ((.slice ad2 m cc2)) ∧ w'.cell? ⟨b, 2, none⟩ = some (.int .u64 (r.ttx : Int)) ∧ w'.cell? ⟨b, 3, none⟩ = some (.int .u64 (r.tnum : Int))) ∧ w'.cell? ⟨x, o + k * 2, none⟩ = some (.int .u32 (q.page : Int)) ∧ w'.cell? ⟨x, o + k * 2 + 1, none⟩ = some (.int .u64 (q.lsn : Int))) (first | exact D2.out.all | exact D3.all | exact D4.all)
              (first
                | (go_at_call 23; (with_reducible refine (K4.out _).mono ?_); rintro e w2 ⟨rfl, b2⟩; have D3 := D2.out.later b2; clear b2)
                | (go_at_call 23; (with_reducible refine (K5.out _).mono ?_); rintro e w3 ⟨rfl, b2⟩; have D4 := D3.later b2; clear b2))
            have T9 := Lib.hid D4.t
            clear D2 D3 D4 K4 K5
            go_wp2_with fail
            rw [← TK.out]
            go_roundw
            case rel => exact ⟨k + 1, by omega, by go_num, rfl, T9.out⟩
            case measure => simp [intOf]; omega
          · obtain rfl : k = n := by omega
            have e : r.dirty.take k = r.dirty := List.take_of_length_le (by rw [← N.out]; exact Nat.le_refl _)
            rw [e]
            have hz := ZD.out k (by omega)
            rw [e] at hz
            obtain ⟨R, hR⟩ : ∃ R, R = Q ++ disS r.dirty := ⟨_, rfl⟩
            have zr : R.size ≤ 3000 := by rw [hR, ByteArray.size_append]; omega
            have E4 : Hid (res = R ++ A7 ++ acsS r.txns) := Lib.hid (by rw [E3.out, hR])
            rw [← hR]
            clear hR hz E3 ZD e hlt
            have s1 := small (x := R.size) (y := A7.size) (by omega)
            have zra : (R ++ A7).size ≤ 3001 := by rw [ByteArray.size_append]; omega
            clear z7 zr
            go_wp2_with fail
            refine (K7.out _).mono ?_
            rintro e w2 ⟨rfl, b4⟩
            have U3 := Lib.hid (U2.out.later b4)
            clear b4 U2 K7 b0 b1 b2 b3
            obtain ⟨b0, b1, b2, b3⟩ := U3.out.all
            go_wp2_with fail
            clear b0 b1 b2 b3 s1
            obtain ⟨S, hS⟩ : ∃ S, S = R ++ A7 := ⟨_, rfl⟩
            rw [← hS] at E4 zra ⊢
            clear hS
            have EN : Hid (S = S ++ acsS (r.txns.take 0)) := Lib.hid (by rw [List.take_zero]; exact (no_r _).symm)
            go_loopw [3, 6] (fun s i wr => ∃ j : Nat, j ≤ m ∧ i = .int .i64 (j : Int) ∧ s = .string (S ++ acsS (r.txns.take j)) ∧ Tb w wr b r (.slice ad k cc) (.slice ad2 m cc2)) (fun _ i _ => m - (intOf i).toNat)
            case atStart => exact ⟨0, by omega, rfl, by rw [← EN.out], U3.out⟩
            case round =>
              obtain ⟨j, hj, rfl, rfl, U4⟩ := hrel
              clear U3
              have U3 := Lib.hid U4
              clear U4 EN
              obtain ⟨b0, b1, b2, b3⟩ := U3.out.all
              by_cases hlt : j < m
              · have hlt2 : j < r.txns.length := by rw [← M.out]; exact hlt
                obtain ⟨x, o, cap', hv, hat⟩ := (H.out.ac.later U3.out.below).at hlt2
                simp only [Value.slice.injEq] at hv
                obtain ⟨rfl, e9, rfl⟩ := hv
                clear e9
                have hw := H.out.wf.eacht j r.txns[j] (List.getElem?_eq_getElem hlt2)
                have hz := ZA.out j (by omega)
                have TK := Lib.hid (show S ++ acsS (r.txns.take (j + 1)) = S ++ acsS (r.txns.take j) ++ nb 8 r.txns[j].tx ++ nb 8 r.txns[j].first ++ nb 8 r.txns[j].last ++ nb 8 r.txns[j].next by rw [List.take_succ_eq_append_getElem hlt2, acs_snoc]; simp only [acS, ByteArray.append_assoc])
                generalize r.txns[j] = q at *
                have K1 := Lib.hid (put8 q.tx hw.tx)
                have K2 := Lib.hid (put8 q.first hw.first)
                have K3 := Lib.hid (put8 q.last hw.last)
                have K4 := Lib.hid (put8 q.next hw.next)
                have y1 := nb_size 8 q.tx
                have y2 := nb_size 8 q.first
                have y3 := nb_size 8 q.last
                have y4 := nb_size 8 q.next
                generalize nb 8 q.tx = Y1 at *
                generalize nb 8 q.first = Y2 at *
                generalize nb 8 q.last = Y3 at *
                generalize nb 8 q.next = Y4 at *
                obtain ⟨R, hR⟩ : ∃ R, R = S ++ acsS (r.txns.take j) := ⟨_, rfl⟩
                have zr : R.size ≤ 10000 := by rw [hR, ByteArray.size_append]; omega
                rw [← hR] at TK ⊢
                clear hR hz hw hlt2
                have s1 := small (x := R.size) (y := Y1.size) (by omega)
                have s2 := small (x := R.size + Y1.size) (y := Y2.size) (by omega)
                have s3 := small (x := R.size + Y1.size + Y2.size) (y := Y3.size) (by omega)
                have s4 := small (x := R.size + Y1.size + Y2.size + Y3.size) (y := Y4.size) (by omega)
                clear y1 y2 y3 y4
                obtain ⟨c0, c1, c2, c3⟩ := hat
                go_upto_region 25 with fail
                have D1 := Lib.hid (Ab.make U3.out q)
                generalize hbb : wr.heap.size = bb at *
                clear c0 c1 c2 c3 U3 b0 b1 b2 b3 hbb
                generalize wr.alloc _ = W0 at *
                have D2 := Lib.hid (D1.out.later ((Below.refl _ _).drew))
                go_region_held3 (fun w' => w'.cell? ⟨bb, 0, none⟩ = some (.int .u64 (q.tx : Int)) ∧ w'.cell? ⟨bb, 1, none⟩ = some (.int .u64 (q.first : Int)) ∧ w'.cell? ⟨bb, 2, none⟩ = some (.int .u64 (q.last : Int)) ∧ w'.cell? ⟨bb, 3, none⟩ = some (.int .u64 (q.next : Int))) (first | exact D2.out.four | exact D3.four | exact D4.four | exact D5.four | exact D6.four)
                  (first
                    | (go_at_call 23; (with_reducible refine (K1.out _).mono ?_); rintro e w2 ⟨rfl, b2⟩; have D3 := D2.out.later b2; clear b2)
                    | (go_at_call 23; (with_reducible refine (K2.out _).mono ?_); rintro e w3 ⟨rfl, b2⟩; have D4 := D3.later b2; clear b2)
                    | (go_at_call 23; (with_reducible refine (K3.out _).mono ?_); rintro e w4 ⟨rfl, b2⟩; have D5 := D4.later b2; clear b2)
                    | (go_at_call 23; (with_reducible refine (K4.out _).mono ?_); rintro e w5 ⟨rfl, b2⟩; have D6 := D5.later b2; clear b2))
                have T9 := Lib.hid D6.t
                clear D1 D2 D3 D4 D5 D6 K1 K2 K3 K4
                go_wp2_with fail
                rw [← TK.out]
                go_roundw
                case rel => exact ⟨j + 1, by omega, by go_num, rfl, T9.out⟩
                case measure => simp [intOf]; omega
              · obtain rfl : j = m := by omega
                have e : r.txns.take j = r.txns := List.take_of_length_le (by rw [← M.out]; exact Nat.le_refl _)
                rw [e, ← E4.out]
                clear e
                go_wp2_with fail
                go_ret
                exact ⟨rfl, U3.out.below⟩
    have f8 : ((r.kind : Int) == 8) = false := num_no h8
    have E2 := Lib.hid (show res = P by rw [E.out, BZ.out (by omega), show midS r = ⟨#[]⟩ by unfold midS; simp [h2, h3, h4, h8], no_r, no_r])
    clear E BZ
    go_wp2_with fail
    go_ret
    exact ⟨by rw [E2.out]; rfl, T3.out.below⟩

theorem rencode_any {w : World} {r : Rc} {d t : Value} (h : InR w r d t) :
    Calls Try.prog 11 #[recV r d t] w fun e w' => e = .returned (.string (encS r)) ∧ Below w.heap.size w w' := by
  cases hm : mayC r with
  | true => exact rencode_yes h hm
  | false => exact rencode_no h hm

end Go.Proofs.Ytadhophiannigaa.Rec
