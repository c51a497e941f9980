/-
  Walks: lists of ops, as bytes (the document).
  Walks: bytes that are read: a number, a text (the document).
  Walks: a text that is read (the document).
-/
import Derived.Test.YticnbicnefnhbaaZ7
import Derived.Test.YticnbicnefnhbaaZ3
import Derived.Test.YticnbicnefnhbaaZ1
namespace Go.Proofs.Yticnbicnefnhbaa.Op
open Go.RowKit
open Go.Proofs.Yticnbicnefnhbaa.Seq (strS Is)
open Go.Proofs.Yticnbicnefnhbaa.By
attribute [local go_sem ↓] Go.wp_at_zero Go.wp_at_succ

/-- an op, where it lies in a list -/
structure OAt (w : World) (b o : Nat) (x : O) (u : Value) : Prop where
  c0 : w.cell? ⟨b, o, none⟩ = some (.int .u8 (x.kind : Int))
  c1 : w.cell? ⟨b, o + 1, none⟩ = some (.int .u32 (x.page : Int))
  c2 : w.cell? ⟨b, o + 2, none⟩ = some (.int .i64 x.at')
  c3 : w.cell? ⟨b, o + 3, none⟩ = some (.int .i64 x.off)
  c4 : w.cell? ⟨b, o + 4, none⟩ = some (.string x.text)
  c5 : w.cell? ⟨b, o + 5, none⟩ = some u
  c6 : w.cell? ⟨b, o + 6, none⟩ = some (.int .u8 (x.pkind : Int))
  c7 : w.cell? ⟨b, o + 7, none⟩ = some (.int .u8 (x.level : Int))
  c8 : w.cell? ⟨b, o + 8, none⟩ = some (.int .u32 (x.next : Int))
  lt : b < w.heap.size
theorem OAt.later {w w' : World} {b o : Nat} {x : O} {u : Value} (h : OAt w b o x u) (t : Below w.heap.size w w') : OAt w' b o x u := by
  have e : ∀ j, w'.cell? ⟨b, j, none⟩ = w.cell? ⟨b, j, none⟩ := fun j => World.cell?_of_block (t.block b h.lt)
  exact ⟨(e _).trans h.c0, (e _).trans h.c1, (e _).trans h.c2, (e _).trans h.c3, (e _).trans h.c4, (e _).trans h.c5, (e _).trans h.c6, (e _).trans h.c7, (e _).trans h.c8, Nat.lt_of_lt_of_le h.lt t.size⟩
theorem Ops.nine {w : World} {a : Option Addr} {n cap : Nat} {l : List O} (h : Ops w (.slice a n cap) l) {i : Nat} (hi : i < l.length) :
    ∃ u b o, a = some ⟨b, o, none⟩ ∧ In w l[i] u ∧ OAt w b (o + i * 9) l[i] u := by
  obtain ⟨u, b, o, h1, h2, h3, h4⟩ := h.at hi
  have e : ∀ j x, (oL (l[i], u))[j]? = some x → w.cell? ⟨b, o + i * 9 + j, none⟩ = some x := fun j x hx => by rw [Nat.add_assoc]; exact h4 j x hx
  exact ⟨u, b, o, h1, h3, e 0 _ rfl, e 1 _ rfl, e 2 _ rfl, e 3 _ rfl, e 4 _ rfl, e 5 _ rfl, e 6 _ rfl, e 7 _ rfl, e 8 _ rfl, h2⟩
theorem bytes_le {o : O} (h : May o) : (bytes o).length ≤ 2000 := by
  have h1 := h.tt
  have h2 := h.rl
  have h3 := tb_len o.rows
  have h4 : (tb o.text).length = 2 + o.text.size := by unfold tb; rw [List.length_append, be_length, L_len]
  unfold bytes tail
  simp only [List.length_append, be_length]
  repeat' split
  all_goals simp only [List.length_append, be_length, List.length_nil]
  all_goals omega
theorem bad_enc {l : List O} {k : Nat} (h1 : ¬ 32 < l.length) (hk : k < l.length) (hm : ¬ May l[k]) : encE l = 2 ∧ encS l = ⟨#[]⟩ := by
  have he : encE l = 2 := by
    unfold encE
    rw [if_neg h1, if_neg]
    intro h
    exact hm (allMay_iff.1 h _ (List.getElem_mem hk))
  refine ⟨he, ?_⟩
  unfold encS
  rw [he, if_neg (by decide)]

set_option maxRecDepth 100000 in
set_option maxHeartbeats 4000000 in
theorem rencode_any {w : World} {l : List O} {v : Value} (h : Ops w v l) :
    Calls Try.prog 12 #[v] w fun e w' => e = .returned (.tuple #[.string (encS l), .int .i64 (encE l : Int)]) ∧ Below w.heap.size w w' := by
  obtain ⟨ad, c, rfl⟩ := h.shape
  have H := Lib.hid h
  clear h
  by_cases h32 : 32 < l.length
  · have e1 : encE l = 5 := by unfold encE; rw [if_pos h32]
    have e2 : encS l = ⟨#[]⟩ := by unfold encS; rw [e1, if_neg (by decide)]
    rw [e1, e2]
    clear e1 e2 H
    go_enter Try.func12, Try.ntmps12
    go_wp2_with fail
    go_ret2
    exact ⟨rfl, Below.refl _ _⟩
  have N1 := Lib.hid (fun W => rnum1 l.length W (by omega))
  have BE := Lib.hid (fun k (hk : k < l.length) hm => bad_enc h32 hk hm)
  have GE := Lib.hid (fun (hm : ∀ o ∈ l, May o) => enc_yes (by omega) hm)
  have GS := Lib.hid (show encE l = 0 → encS l = nb 1 l.length ++ T (l.flatMap bytes) from fun e => L_ext (by rw [(enc_ok e).2.2, L_app, L_nb]; rfl))
  have zn : (nb 1 l.length).size = 1 := nb_size _ _
  generalize nb 1 l.length = p at *
  obtain ⟨m, hm⟩ : ∃ m, m = l.length := ⟨_, rfl⟩
  have M := Lib.hid hm.symm
  rw [← hm] at N1 h32 ⊢
  clear hm
  go_enter Try.func12, Try.ntmps12
  go_wp2_with fail
  refine (N1.out _).mono ?_
  rintro e w1 ⟨rfl, b1⟩
  have B1 := Lib.hid b1
  clear b1 N1
  go_wp2_with fail
  go_loopw [4, 5] (fun x i wr => ∃ k : Nat, k ≤ m ∧ i = .int .i64 k ∧ x = .string (p ++ T ((l.take k).flatMap bytes)) ∧ ((l.take k).flatMap bytes).length ≤ 2000 * k ∧ (∀ j (hj : j < l.length), j < k → May l[j]) ∧ Below w.heap.size w wr) (fun _ i _ => m - (intOf i).toNat)
  case atStart => exact ⟨0, by omega, by go_num, by rw [List.take_zero]; exact congrArg Value.string (L_ext (by simp)), by simp, fun j _ hj => by omega, B1.out⟩
  case round =>
    obtain ⟨k, hk, rfl, rfl, hz, hy, hb⟩ := hrel
    have B := Lib.hid hb
    have Y := Lib.hid hy
    clear hb hy B1
    by_cases hlt : k < m
    · have hkl : k < l.length := by rw [M.out]; exact hlt
      obtain ⟨u, b, o, rfl, hi, ho⟩ := (H.out.later B.out).nine hkl
      have I := Lib.hid hi
      obtain ⟨a0, a1, a2, a3, a4, a5, a6, a7, a8, _⟩ := id ho
      have OO := Lib.hid ho
      have KM := Lib.hid (rmay_any hi)
      have KB := Lib.hid (fun W (t : Below wr.heap.size wr W) (hm : May l[k]) => rbytes_any (hi.later t) hm)
      have BK := Lib.hid (BE.out k hkl)
      have NX := Lib.hid (show p ++ T ((l.take k).flatMap bytes) ++ T (bytes l[k]) = p ++ T ((l.take (k + 1)).flatMap bytes) from L_ext (by rw [List.take_succ_eq_append_getElem hkl, List.flatMap_append]; simp only [L_app, L_T, List.flatMap_cons, List.flatMap_nil, List.append_nil, List.append_assoc]))
      have NZ := Lib.hid (show May l[k] → ((l.take (k + 1)).flatMap bytes).length ≤ 2000 * (k + 1) from fun hm => by rw [List.take_succ_eq_append_getElem hkl, List.flatMap_append, List.length_append]; simp only [List.flatMap_cons, List.flatMap_nil, List.append_nil]; have := bytes_le hm; omega)
      have YN := Lib.hid (show May l[k] → ∀ j (hj : j < l.length), j < k + 1 → May l[j] from fun hm j hj h2 => by
        by_cases e : j = k
        · subst e; exact hm
        · exact Y.out j hj (by omega))
      have BZ := Lib.hid (fun (hq : May l[k]) => bytes_le hq)
      unfold oV oC at KM KB
      clear hi ho Y
      generalize l[k] = X at *
      by_cases hm : May X
      · rw [decide_eq_true hm] at KM
        have KB1 := Lib.hid (fun W t => KB.out W t hm)
        have NZ1 := Lib.hid (NZ.out hm)
        have YN1 := Lib.hid (YN.out hm)
        have BZ1 := BZ.out hm
        have zQ : (p ++ T ((l.take k).flatMap bytes)).size ≤ 70000 := by
          have e3 : (T ((l.take k).flatMap bytes)).size = ((l.take k).flatMap bytes).length := rfl
          rw [ByteArray.size_append, e3]
          omega
        have zX : (T (bytes X)).size ≤ 2000 := BZ1
        clear KB NZ YN BZ BZ1 BK hm BE hz
        generalize T (bytes X) = Z at *
        generalize (p ++ T ((l.take k).flatMap bytes)) = Q at *
        go_wp2_with fail
        refine KM.out.mono ?_
        rintro e w2 ⟨rfl, b2⟩
        have OO2 := Lib.hid (OO.out.later b2)
        have C2 := Lib.hid b2
        have B2 := Lib.hid (B.out.trans (b2.mono B.out.size))
        clear b2 a0 a1 a2 a3 a4 a5 a6 a7 a8 OO KM
        obtain ⟨a0, a1, a2, a3, a4, a5, a6, a7, a8, _⟩ := OO2.out
        go_wp2_with fail
        refine (KB1.out _ C2.out).mono ?_
        rintro e w3 ⟨rfl, b3⟩
        have B3 := Lib.hid (B2.out.trans (b3.mono B2.out.size))
        clear b3 a0 a1 a2 a3 a4 a5 a6 a7 a8 OO2 KB1 B2 C2
        go_wp2_with fail
        go_roundw
        case rel => exact ⟨k + 1, by omega, by go_num, by rw [← NX.out], NZ1.out, YN1.out, B3.out⟩
        case measure => simp [intOf]; omega
      · rw [decide_eq_false hm] at KM
        obtain ⟨f1, f2⟩ := BK.out hm
        have F := Lib.hid (And.intro f1 f2)
        clear f1 f2 KB NZ YN BZ BK hm BE
        go_wp2_with fail
        refine KM.out.mono ?_
        rintro e w2 ⟨rfl, b2⟩
        have B2 := Lib.hid (B.out.trans (b2.mono B.out.size))
        clear b2 a0 a1 a2 a3 a4 a5 a6 a7 a8 OO KM
        go_wp2_with fail
        go_ret2
        exact ⟨by rw [F.out.1, F.out.2]; rfl, B2.out⟩
    · have hkk : k = l.length := by rw [M.out]; omega
      have g0 := GE.out (fun x hx => by
        obtain ⟨j, hj, rfl⟩ := List.getElem_of_mem hx
        exact Y.out j hj (by omega))
      have g1 := GS.out g0
      have F := Lib.hid (And.intro g0 g1)
      have et : l.take k = l := List.take_of_length_le (by omega)
      rw [et]
      clear g0 g1 hz hkk et
      go_wp2_with fail
      go_ret2
      exact ⟨by rw [F.out.1, F.out.2]; rfl, B.out⟩

end Go.Proofs.Yticnbicnefnhbaa.Op

namespace Go.Proofs.Yticnbicnefnhbaa.Op
open Go.RowKit
open Go.Proofs.Yticnbicnefnhbaa.Seq (strS Is)
open Go.Proofs.Yticnbicnefnhbaa.By
attribute [local go_sem ↓] Go.wp_at_zero Go.wp_at_succ

/-- what is being read: the text, where, whether something was wanting -/
def gC (s : ByteArray) (a : Nat) (b : Bool) : Array Value := #[.string s, .int .i64 (a : Int), .bool b]
structure Gb (W0 w : World) (g : Nat) (s : ByteArray) (a : Nat) (b : Bool) : Prop where
  box : w.heap[g]? = some (.cells (gC s a b) 78 (0, 0))
  base : W0.heap.size ≤ g
  below : Below W0.heap.size W0 w
theorem Gb.part {W0 w : World} {g a a' : Nat} {s : ByteArray} {b b' : Bool} (h : Gb W0 w g s a b) (j : Nat) (v : Value) (e : (gC s a b).setIfInBounds j v = gC s a' b') : Gb W0 (w.setCell ⟨g, j, none⟩ v) g s a' b' :=
  ⟨by rw [heap_setCell_same w g j _ _ _ h.box, e], h.base, h.below.setCell h.base _⟩
theorem Gb.drew {W0 w : World} {g a : Nat} {s : ByteArray} {b : Bool} (h : Gb W0 w g s a b) : Gb W0 w.drew g s a b := ⟨h.box, h.base, h.below.drew⟩
theorem Gb.three {W0 w : World} {g a : Nat} {s : ByteArray} {b : Bool} (h : Gb W0 w g s a b) : w.cell? ⟨g, 0, none⟩ = some (.string s) ∧ w.cell? ⟨g, 1, none⟩ = some (.int .i64 (a : Int)) ∧ w.cell? ⟨g, 2, none⟩ = some (.bool b) := by
  refine ⟨?_, ?_, ?_⟩ <;> (rw [cell_of_row _ _ _ _ _ _ h.box]; rfl)
theorem Gb.free {W0 w : World} {g a : Nat} {s : ByteArray} {b : Bool} (h : Gb W0 w g s a b) (j : Nat) : w.frozen? ⟨g, j, none⟩ = false := frozen_of_row _ _ _ _ _ h.box
/-- what is left: r -/
def Left (B : Nat) (s : ByteArray) (a : Nat) (b : Bool) (r : Rd) : Prop := (b = false ∧ a ≤ s.size ∧ r = some ((L s).drop a)) ∨ (b = true ∧ r = none ∧ a ≤ B)
/-- the reader, of which r is left -/
def Gt (W0 w : World) (g B : Nat) (s : ByteArray) (r : Rd) : Prop := ∃ a b, Gb W0 w g s a b ∧ Left B s a b r
theorem cV_drop {s : ByteArray} {a m : Nat} (ha : a ≤ s.size) : cV m (some ((L s).drop a)) = if a + m ≤ s.size then (((L s).drop a).take m, some ((L s).drop (a + m))) else ([], none) := by
  show (if m ≤ ((L s).drop a).length then _ else _) = _
  rw [List.length_drop, L_len]
  by_cases h : a + m ≤ s.size
  · rw [if_pos (by omega), if_pos h, List.drop_drop]
  · rw [if_neg (by omega), if_neg h]

set_option maxRecDepth 100000 in
set_option maxHeartbeats 2000000 in
theorem gnum_any {W0 w : World} {g B : Nat} {s : ByteArray} {r : Rd} (G : Gt W0 w g B s r) (m : Nat) (h1 : 1 ≤ m) (h4 : m ≤ 4) (hs : s.size ≤ 100000) (hB : s.size ≤ B ∧ B ≤ 1000000000) :
    Calls Try.prog 35 #[.pointer (some ⟨g, 0, none⟩), .int .i64 (m : Int)] w fun e w' => e = .returned (.int .i64 ((nV m r).1 : Int)) ∧ Gt W0 w' g (B + 8) s (nV m r).2 ∧ Touch (fun x => x = g) w w' := by
  obtain ⟨a, b, hg, hl⟩ := G
  have ha : a ≤ 1000000000 := by rcases hl with ⟨_, h, _⟩ | ⟨_, _, h⟩ <;> omega
  have K := fun W => rget_any s (a : Int) (m : Int) W (by omega) (by omega) (by omega)
  have hN : (getN s (a : Int) (m : Int)) = if a + m ≤ s.size then (numAt s a m : Int) else 0 := by
    unfold getN getB mayB hasB
    by_cases h : a + m ≤ s.size
    · rw [if_pos h, if_pos (by simp; omega), Int.toNat_natCast, Int.toNat_natCast]
    · rw [if_neg h, if_neg (by simp; omega)]
  have hQ : getB s (a : Int) (m : Int) = decide (a + m ≤ s.size) := by
    unfold getB mayB hasB
    rw [Bool.eq_iff_iff]
    simp
    omega
  rw [hN, hQ] at K
  have T0 := Lib.hid hg
  have HB : a + m ≤ B + 8 := by rcases hl with ⟨_, h, _⟩ | ⟨_, _, h⟩ <;> omega
  obtain ⟨c0, c1, c2⟩ := hg.three
  have f1 := hg.free 1
  have f2 := hg.free 2
  have wa : IntKind.i64.wrap ((a : Int) + (m : Int)) = (a : Int) + (m : Int) := by rw [IntKind.wrap_i64]; omega
  have Q : Hid ((∃ x : Nat, x < 4294967296 ∧ a + m ≤ s.size ∧ b = false ∧ numAt s a m = x ∧ nV m r = (x, some ((L s).drop (a + m)))) ∨ ((¬ a + m ≤ s.size ∨ b = true) ∧ nV m r = (0, none))) := by
    refine Lib.hid ?_
    rcases hl with ⟨rfl, h, rfl⟩ | ⟨rfl, rfl, h⟩
    · by_cases e : a + m ≤ s.size
      · refine .inl ⟨numAt s a m, ?_, e, rfl, rfl, ?_⟩
        · have h2 := numAt_lt s a m
          have h3 : 256 ^ m ≤ 256 ^ 4 := Nat.pow_le_pow_right (by omega) h4
          have h5 : (256 : Nat) ^ 4 = 4294967296 := by decide
          omega
        · unfold nV
          rw [cV_drop h, if_pos e]
          rfl
      · refine .inr ⟨.inl e, ?_⟩
        unfold nV
        rw [cV_drop h, if_neg e]
        rfl
    · exact .inr ⟨.inr rfl, nV_none m⟩
  clear hN hQ hl hg
  rcases Q.out with ⟨x, hx, e1, rfl, e2, e3⟩ | ⟨e1, e3⟩
  · have E := Lib.hid e3
    rw [if_pos e1, decide_eq_true e1, e2] at K
    have KK := Lib.hid K
    have wx : IntKind.i64.wrap (x : Int) = (x : Int) := by rw [IntKind.wrap_i64]; omega
    have FIN := Lib.hid (show Left (B + 8) s (a + m) false (some ((L s).drop (a + m))) from .inl ⟨rfl, e1, rfl⟩)
    clear K e2 e3 Q e1
    go_enter Try.func35, Try.ntmps35
    go_upto_region 1 with fail
    have T1 := Lib.hid T0.out.drew
    go_region_held3 (fun w' => w'.cell? ⟨g, 0, none⟩ = some (.string s) ∧ w'.cell? ⟨g, 1, none⟩ = some (.int .i64 (a : Int)) ∧ w'.cell? ⟨g, 2, none⟩ = some (.bool false)) (exact T1.out.three) ((go_at_call 55; (with_reducible refine (KK.out _).mono ?_); rintro e w2 ⟨rfl, rfl⟩))
    have T2 := Lib.hid (T1.out.part (a' := a + m) (b' := false) 1 (.int .i64 ((a : Int) + (m : Int))) rfl)
    have U2 := Lib.hid (((Touch.refl (fun x => x = g) w).drew).setCell (x := ⟨g, 1, none⟩) rfl (.int .i64 ((a : Int) + (m : Int))))
    clear KK
    go_wp2_with fail
    go_ret
    exact ⟨by rw [E.out]; rfl, ⟨_, _, T2.out, by rw [E.out]; exact FIN.out⟩, U2.out⟩
  · have E := Lib.hid e3
    have FIN := Lib.hid (show Left (B + 8) s (a + m) true none from .inr ⟨rfl, rfl, HB⟩)
    clear e3 Q
    by_cases e : a + m ≤ s.size
    · have eb : b = true := e1.resolve_left (not_not_intro e)
      subst eb
      obtain ⟨y, hy⟩ : ∃ y : Nat, numAt s a m = y := ⟨_, rfl⟩
      rw [if_pos e, decide_eq_true e, hy] at K
      have KK := Lib.hid K
      clear K e1 e hy
      go_enter Try.func35, Try.ntmps35
      go_upto_region 1 with fail
      have T1 := Lib.hid T0.out.drew
      go_region_held3 (fun w' => w'.cell? ⟨g, 0, none⟩ = some (.string s) ∧ w'.cell? ⟨g, 1, none⟩ = some (.int .i64 (a : Int)) ∧ w'.cell? ⟨g, 2, none⟩ = some (.bool true)) (exact T1.out.three) ((go_at_call 55; (with_reducible refine (KK.out _).mono ?_); rintro e w2 ⟨rfl, rfl⟩))
      have T2 := Lib.hid (T1.out.part (a' := a + m) (b' := true) 1 (.int .i64 ((a : Int) + (m : Int))) rfl)
      have T3 := Lib.hid (T2.out.part (a' := a + m) (b' := true) 2 (.bool true) rfl)
      have U2 := Lib.hid ((((Touch.refl (fun x => x = g) w).drew).setCell (x := ⟨g, 1, none⟩) rfl (.int .i64 ((a : Int) + (m : Int)))).setCell (x := ⟨g, 2, none⟩) rfl (.bool true))
      clear KK
      go_wp2_with fail
      go_ret
      exact ⟨by rw [E.out]; rfl, ⟨_, _, T3.out, by rw [E.out]; exact FIN.out⟩, U2.out⟩
    · rw [if_neg e, decide_eq_false e] at K
      have KK := Lib.hid K
      clear K e1 e
      go_enter Try.func35, Try.ntmps35
      go_upto_region 1 with fail
      have T1 := Lib.hid T0.out.drew
      go_region_held3 (fun w' => w'.cell? ⟨g, 0, none⟩ = some (.string s) ∧ w'.cell? ⟨g, 1, none⟩ = some (.int .i64 (a : Int)) ∧ w'.cell? ⟨g, 2, none⟩ = some (.bool b)) (exact T1.out.three) ((go_at_call 55; (with_reducible refine (KK.out _).mono ?_); rintro e w2 ⟨rfl, rfl⟩))
      have T2 := Lib.hid (T1.out.part (a' := a + m) (b' := b) 1 (.int .i64 ((a : Int) + (m : Int))) rfl)
      have T3 := Lib.hid (T2.out.part (a' := a + m) (b' := true) 2 (.bool true) rfl)
      have U2 := Lib.hid ((((Touch.refl (fun x => x = g) w).drew).setCell (x := ⟨g, 1, none⟩) rfl (.int .i64 ((a : Int) + (m : Int)))).setCell (x := ⟨g, 2, none⟩) rfl (.bool true))
      clear KK
      go_wp2_with fail
      go_ret
      exact ⟨by rw [E.out]; rfl, ⟨_, _, T3.out, by rw [E.out]; exact FIN.out⟩, U2.out⟩

end Go.Proofs.Yticnbicnefnhbaa.Op

namespace Go.Proofs.Yticnbicnefnhbaa.Op
open Go.RowKit
open Go.Proofs.Yticnbicnefnhbaa.Seq (strS Is)
open Go.Proofs.Yticnbicnefnhbaa.By
attribute [local go_sem ↓] Go.wp_at_zero Go.wp_at_succ

theorem nV_lt (m : Nat) (r : Rd) : (nV m r).1 < 256 ^ m := by
  cases h : (nV m r).2 with
  | some l => exact (nV_some (x := (nV m r).1) (m := l) (by rw [← h])).2
  | none =>
    have : (nV m r).1 = 0 := by
      cases r with
      | none => rfl
      | some l =>
        have ec : cV m (some l) = if m ≤ l.length then (l.take m, some (l.drop m)) else ([], none) := rfl
        unfold nV at h ⊢
        rw [ec] at h ⊢
        by_cases e : m ≤ l.length
        · rw [if_pos e] at h; cases h
        · rw [if_neg e]; rfl
    rw [this]
    exact Nat.pow_pos (by omega)

/-- what the document's Cut answers -/
def cutR (s : ByteArray) (a n : Nat) : ByteArray × Bool := if a + n ≤ s.size then (s.extract a (a + n), true) else (⟨#[]⟩, false)
theorem rcut_any (s : ByteArray) (a n : Nat) (w : World) (hs : s.size ≤ 281474976710656) (ha : a ≤ 1000000000) (hn : n ≤ 1000000000) :
    Calls Try.prog 67 #[.string s, .int .i64 (a : Int), .int .i64 (n : Int)] w fun e w' => e = .returned (.tuple #[.string (cutR s a n).1, .bool (cutR s a n).2]) ∧ w = w' := by
  by_cases h : a + n ≤ s.size
  · unfold cutR
    rw [if_pos h]
    exact rcut_yes s a n w hs h
  · unfold cutR
    rw [if_neg h]
    exact rcut_no s a n w hs (by omega) (by omega) (by unfold hasB; simp; omega)
theorem tV_cut {s : ByteArray} {r : Rd} {a n : Nat} (hn : (nV 2 r).1 = n) (h1 : (nV 2 r).2 = some ((L s).drop a)) (ha : a ≤ s.size) :
    tV r = if a + n ≤ s.size then (s.extract a (a + n), some ((L s).drop (a + n))) else (⟨#[]⟩, none) := by
  unfold tV
  rw [hn, h1, cV_drop ha]
  by_cases h : a + n ≤ s.size
  · rw [if_pos h, if_pos h]
    simp only
    rw [show ((L s).drop a).take n = L (s.extract a (a + n)) by rw [L_cut, show a + n - a = n by omega]]
    first | done | rfl | rw [T_L]
  · rw [if_neg h, if_neg h]
theorem tV_bad {r : Rd} (h1 : (nV 2 r).2 = none) : tV r = (⟨#[]⟩, none) := by
  unfold tV
  rw [h1]
  rfl

theorem gnum1 {W0 w : World} {g B : Nat} {s : ByteArray} {r : Rd} (G : Gt W0 w g B s r) (hs : s.size ≤ 100000) (hB : s.size ≤ B ∧ B ≤ 1000000000) :
    Calls Try.prog 35 #[.pointer (some ⟨g, 0, none⟩), .int .i64 1] w fun e w' => e = .returned (.int .i64 ((nV 1 r).1 : Int)) ∧ Gt W0 w' g (B + 8) s (nV 1 r).2 ∧ Touch (fun x => x = g) w w' := gnum_any G 1 (by omega) (by omega) hs hB
theorem gnum2 {W0 w : World} {g B : Nat} {s : ByteArray} {r : Rd} (G : Gt W0 w g B s r) (hs : s.size ≤ 100000) (hB : s.size ≤ B ∧ B ≤ 1000000000) :
    Calls Try.prog 35 #[.pointer (some ⟨g, 0, none⟩), .int .i64 2] w fun e w' => e = .returned (.int .i64 ((nV 2 r).1 : Int)) ∧ Gt W0 w' g (B + 8) s (nV 2 r).2 ∧ Touch (fun x => x = g) w w' := gnum_any G 2 (by omega) (by omega) hs hB
theorem gnum4 {W0 w : World} {g B : Nat} {s : ByteArray} {r : Rd} (G : Gt W0 w g B s r) (hs : s.size ≤ 100000) (hB : s.size ≤ B ∧ B ≤ 1000000000) :
    Calls Try.prog 35 #[.pointer (some ⟨g, 0, none⟩), .int .i64 4] w fun e w' => e = .returned (.int .i64 ((nV 4 r).1 : Int)) ∧ Gt W0 w' g (B + 8) s (nV 4 r).2 ∧ Touch (fun x => x = g) w w' := gnum_any G 4 (by omega) (by omega) hs hB

set_option maxRecDepth 100000 in
set_option maxHeartbeats 2000000 in
theorem gtext_any {W0 w : World} {g B : Nat} {s : ByteArray} {r : Rd} (G : Gt W0 w g B s r) (hs : s.size ≤ 100000) (hB : s.size ≤ B ∧ B ≤ 900000000) :
    Calls Try.prog 56 #[.pointer (some ⟨g, 0, none⟩)] w fun e w' => e = .returned (.string (tV r).1) ∧ Gt W0 w' g (B + 70000) s (tV r).2 ∧ Touch (fun x => x = g) w w' := by
  have K1 := Lib.hid (gnum2 G hs (by omega))
  go_enter Try.func56, Try.ntmps56
  go_upto_region 2 with (go_at_call 35; (with_reducible refine K1.out.mono ?_); rintro e w1 ⟨rfl, G1, U1⟩)
  have n6 : (nV 2 r).1 < 65536 := nV_lt 2 r
  obtain ⟨n, hn⟩ : ∃ n, (nV 2 r).1 = n := ⟨_, rfl⟩
  rw [hn] at n6
  obtain ⟨a, b, hg, hl⟩ := G1
  have ha : a ≤ 900000008 := by rcases hl with ⟨_, h, _⟩ | ⟨_, _, h⟩ <;> omega
  have HB : a + n ≤ B + 70000 := by rcases hl with ⟨_, h, _⟩ | ⟨_, _, h⟩ <;> omega
  have K := fun W => rcut_any s a n W (by omega) (by omega) (by omega)
  have T0 := Lib.hid hg
  obtain ⟨c0, c1, c2⟩ := hg.three
  have f1 := hg.free 1
  have f2 := hg.free 2
  have wa : IntKind.i64.wrap ((a : Int) + (n : Int)) = (a : Int) + (n : Int) := by rw [IntKind.wrap_i64]; omega
  have T1 := Lib.hid T0.out.drew
  have Q : Hid ((∃ x : ByteArray, a + n ≤ s.size ∧ b = false ∧ cutR s a n = (x, true) ∧ tV r = (x, some ((L s).drop (a + n)))) ∨ ((∃ x : ByteArray, ∃ q : Bool, cutR s a n = (x, q) ∧ (q = false ∨ b = true)) ∧ tV r = (⟨#[]⟩, none))) := by
    refine Lib.hid ?_
    rcases hl with ⟨rfl, h, e⟩ | ⟨rfl, e, h⟩
    · by_cases d : a + n ≤ s.size
      · exact .inl ⟨s.extract a (a + n), d, rfl, by unfold cutR; rw [if_pos d], by rw [tV_cut hn e h, if_pos d]⟩
      · exact .inr ⟨⟨_, false, by unfold cutR; rw [if_neg d], .inl rfl⟩, by rw [tV_cut hn e h, if_neg d]⟩
    · exact .inr ⟨⟨_, _, rfl, .inr rfl⟩, tV_bad e⟩
  rw [hn]
  clear hl hg
  rcases Q.out with ⟨x, e1, rfl, e2, e3⟩ | ⟨⟨x, q, e2, e1⟩, e3⟩
  · have E := Lib.hid e3
    rw [e2] at K
    have KK := Lib.hid K
    have FIN := Lib.hid (show Left (B + 70000) s (a + n) false (some ((L s).drop (a + n))) from .inl ⟨rfl, e1, rfl⟩)
    clear K e2 e3 Q e1 hn
    go_region_held3 (fun w' => w'.cell? ⟨g, 0, none⟩ = some (.string s) ∧ w'.cell? ⟨g, 1, none⟩ = some (.int .i64 (a : Int)) ∧ w'.cell? ⟨g, 2, none⟩ = some (.bool false)) (exact T1.out.three) ((go_at_call 67; (with_reducible refine (KK.out _).mono ?_); rintro e w2 ⟨rfl, rfl⟩))
    have T2 := Lib.hid (T1.out.part (a' := a + n) (b' := false) 1 (.int .i64 ((a : Int) + (n : Int))) rfl)
    have U2 := Lib.hid ((U1.drew).setCell (x := ⟨g, 1, none⟩) rfl (.int .i64 ((a : Int) + (n : Int))))
    clear KK
    go_wp2_with fail
    go_ret
    exact ⟨by rw [E.out]; rfl, ⟨_, _, T2.out, by rw [E.out]; exact FIN.out⟩, U2.out⟩
  · have E := Lib.hid e3
    rw [e2] at K
    have KK := Lib.hid K
    have FIN := Lib.hid (show Left (B + 70000) s (a + n) true none from .inr ⟨rfl, rfl, HB⟩)
    clear K e2 e3 Q hn
    go_region_held3 (fun w' => w'.cell? ⟨g, 0, none⟩ = some (.string s) ∧ w'.cell? ⟨g, 1, none⟩ = some (.int .i64 (a : Int)) ∧ w'.cell? ⟨g, 2, none⟩ = some (.bool b)) (exact T1.out.three) ((go_at_call 67; (with_reducible refine (KK.out _).mono ?_); rintro e w2 ⟨rfl, rfl⟩))
    have T2 := Lib.hid (T1.out.part (a' := a + n) (b' := b) 1 (.int .i64 ((a : Int) + (n : Int))) rfl)
    have T3 := Lib.hid (T2.out.part (a' := a + n) (b' := true) 2 (.bool true) rfl)
    have U2 := Lib.hid (((U1.drew).setCell (x := ⟨g, 1, none⟩) rfl (.int .i64 ((a : Int) + (n : Int)))).setCell (x := ⟨g, 2, none⟩) rfl (.bool true))
    clear KK
    rcases e1 with rfl | rfl
    · go_wp2_with fail
      go_ret
      exact ⟨by rw [E.out]; rfl, ⟨_, _, T3.out, by rw [E.out]; exact FIN.out⟩, U2.out⟩
    · cases q
      · go_wp2_with fail
        go_ret
        exact ⟨by rw [E.out]; rfl, ⟨_, _, T3.out, by rw [E.out]; exact FIN.out⟩, U2.out⟩
      · go_wp2_with fail
        go_ret
        exact ⟨by rw [E.out]; rfl, ⟨_, _, T3.out, by rw [E.out]; exact FIN.out⟩, U2.out⟩

end Go.Proofs.Yticnbicnefnhbaa.Op
