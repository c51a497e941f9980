/-
  No dump: a walk by 'quiet' operations serves where a 'still' one is asked.
  Walks: how much of ops there is; are two lists the same (the laws' own).
  Walks: are two lists of ops the same (the laws' own).
-/
import Derived.BigQuiet
import Derived.Deep.QuietTactic
import Derived.StillTailTactics
import Derived.Test.YtfcibccipkokoaaZ11
namespace Go.Proofs.Ytfcibccipkokoaa
variable {P : Program} {ops : Array Oper} {w : World} {Q : Act → Prop}

theorem still_of_quiet_op {o : Oper} {a : Act} {K : Act → Prop} (h : o.quiet P a (fun w' => w' = w) K) : o.still P a w K := by
  obtain ⟨v, hv, hk⟩ := h
  have h := hv w rfl
  unfold Oper.quietAt at h
  unfold Oper.still
  generalize (execOp a.eval o).run P w = r at *
  cases r with
  | ok n w' =>
    cases n <;> simp only [Oper.quietUpon] at h <;> simp only [Oper.stillUpon]
    case value u => exact ⟨h.1, by rw [h.2]; exact hk⟩
    case skip => exact ⟨h.1, by rw [← h.2]; exact hk⟩
    case enter f args => exact ⟨h.1, v, h.2, hk⟩
  | _ => simp only [Oper.quietUpon] at h
theorem still_of_quiet : ∀ (l : List Oper) (a : Act), wpQuiet P ops (fun w' => w' = w) Q l a → wpStill P ops w Q l a
  | [], _, h => h
  | o :: rest, a, h => by
    unfold wpQuiet at h
    unfold wpStill
    split
    · rename_i hw
      rw [if_pos hw] at h
      exact still_of_quiet_op (Oper.quiet_mono (fun a => still_of_quiet rest a) h)
    · rename_i hw
      rw [if_neg hw] at h
      exact still_of_quiet rest _ h

end Go.Proofs.Ytfcibccipkokoaa

namespace Go.Proofs.Ytfcibccipkokoaa.Op
open Go.RowKit
open Go.Proofs.Ytfcibccipkokoaa.Seq (strS Is)
open Go.Proofs.Ytfcibccipkokoaa.By
attribute [local go_sem ↓] Go.wp_at_zero Go.wp_at_succ

/-- how much of an op there is, as far as it is counted -/
def szL : Nat → List ByteArray → Nat
  | n, [] => n
  | n, r :: l => if n ≤ 4096 then szL (n + 1 + r.size) l else n
def sizeO (o : O) : Nat := szL (1 + o.text.size) o.rows
theorem szL_ge : ∀ (l : List ByteArray) (n : Nat), n ≤ szL n l := by
  intro l
  induction l with
  | nil => intro n; exact Nat.le_refl _
  | cons r l ih =>
    intro n
    rw [szL]
    split
    · have := ih (n + 1 + r.size); omega
    · exact Nat.le_refl _
theorem szL_total : ∀ (l : List ByteArray) (n : Nat), szL n l ≤ 4096 → n + l.length + total l ≤ 4096 := by
  intro l
  induction l with
  | nil => intro n h; exact h
  | cons r l ih =>
    intro n h
    rw [szL] at h
    have hn : n ≤ 4096 := by
      split at h
      · assumption
      · exact h
    rw [if_pos hn] at h
    have := ih _ h
    rw [total_cons, List.length_cons]
    omega
theorem szL_le : ∀ (l : List ByteArray) (n m : Nat), n ≤ 4097 + m → (∀ r ∈ l, r.size ≤ m) → szL n l ≤ 4097 + m := by
  intro l
  induction l with
  | nil => intro n m h _; exact h
  | cons r l ih =>
    intro n m h hr
    rw [szL]
    split
    · exact ih _ _ (by have := hr r (List.mem_cons_self ..); omega) (fun x hx => hr x (List.mem_cons_of_mem _ hx))
    · exact h
theorem size_le {w : World} {o : O} {u : Value} (h : In w o u) : sizeO o ≤ 140737488355329 := szL_le _ _ 140737488351232 (by have := h.text; omega) h.each
theorem size_small {o : O} (h : sizeO o ≤ 4096) : o.text.size + o.rows.length + total o.rows ≤ 4095 := by
  have := szL_total _ _ h
  omega

set_option maxRecDepth 100000 in
set_option maxHeartbeats 2000000 in
theorem size_any {w : World} {o : O} {u : Value} (h : In w o u) : Calls Try.prog 27 #[oV o u] w fun e w' => e = .returned (.int .i64 (sizeO o : Int)) ∧ Below w.heap.size w w' := by
  have T0 := Lib.hid (Bx.start w o u)
  have I := Lib.hid (h.later (below_new w (.cells (oC o u) 36)))
  obtain ⟨ad, c, rfl⟩ := h.rows.shape
  have hl := h.len
  have ht := h.text
  have HE := Lib.hid h.each
  obtain ⟨x0, x1, x2, x3, x4, x5, x6, x7, x8⟩ := T0.out.nine
  clear h
  unfold oV
  unfold oC at *
  go_enter Try.func27, Try.ntmps27
  go_upto_region 2 with fail
  generalize hg : w.heap.size = g at *
  clear hg
  generalize w.alloc _ = W at *
  go_wp2_with fail
  go_loop [3, 4] (fun n i => ∃ a k : Nat, n = .int .i64 a ∧ i = .int .i64 k ∧ k ≤ o.rows.length ∧ a ≤ 140737488355329 ∧ szL a (o.rows.drop k) = sizeO o) (fun _ i => o.rows.length - (intOf i).toNat)
  case atStart => exact ⟨1 + o.text.size, 0, by simp, rfl, Nat.zero_le _, by omega, by rw [List.drop_zero]; rfl⟩
  case round =>
    obtain ⟨a, k, rfl, rfl, hk, ha, hs⟩ := hrel
    by_cases hgo : k < o.rows.length ∧ a ≤ 4096
    · obtain ⟨h1, h2⟩ := hgo
      obtain ⟨b, p, rfl, _, hc⟩ := I.out.rows.at (List.getElem?_eq_getElem h1)
      have y0 := hc 0 _ rfl
      have hr := HE.out _ (List.getElem_mem h1)
      have hs2 := Lib.hid (show szL (a + 1 + (o.rows[k]).size) (o.rows.drop (k + 1)) = sizeO o from by
        rw [← hs, List.drop_eq_getElem_cons h1, szL, if_pos h2])
      have e0 : p + (k * 1 + 0) = p + k := by omega
      rw [show strS.k = 1 from rfl, e0] at y0
      generalize o.rows[k] = R at *
      clear hs hc e0
      go_wp2_with fail
      go_round
      case rel => exact ⟨a + 1 + R.size, k + 1, by go_num, by go_num, h1, by omega, hs2.out⟩
      case measure => simp [intOf]; omega
    · have E : Hid (sizeO o = a) := Lib.hid (by
        rw [← hs]
        by_cases h1 : k < o.rows.length
        · rw [List.drop_eq_getElem_cons h1, szL, if_neg (fun h => hgo ⟨h1, h⟩)]
        · rw [List.drop_of_length_le (by omega)]; rfl)
      have hw : (k < o.rows.length ∧ 4096 < a) ∨ ¬ k < o.rows.length := by omega
      have BB := Lib.hid T0.out.below
      clear hs hgo
      rcases hw with ⟨h1, h2⟩ | h1
      all_goals
        go_wp2_with fail
        go_ret
        exact ⟨by rw [E.out]; rfl, BB.out⟩

/-- more of ops than a law looks at? -/
def hvL : Nat → List O → Nat
  | n, [] => n
  | n, o :: l => if n ≤ 4096 then hvL (n + sizeO o) l else n
def heavyO (l : List O) : Bool := decide (4096 < hvL 0 l)
def sumO (l : List O) : Nat := (l.map sizeO).sum
theorem hvL_sum : ∀ (l : List O) (n : Nat), hvL n l ≤ 4096 → n + sumO l ≤ 4096 := by
  intro l
  induction l with
  | nil => intro n h; simpa [sumO, hvL] using h
  | cons o l ih =>
    intro n h
    rw [hvL] at h
    have hn : n ≤ 4096 := by
      split at h
      · assumption
      · exact h
    rw [if_pos hn] at h
    have := ih _ h
    have e : sumO (o :: l) = sizeO o + sumO l := by simp [sumO]
    omega
theorem sizeO_pos (o : O) : 1 ≤ sizeO o := by
  have := szL_ge o.rows (1 + o.text.size)
  unfold sizeO
  omega
theorem sumO_len (l : List O) : l.length ≤ sumO l := by
  induction l with
  | nil => exact Nat.le_refl _
  | cons o l ih =>
    have e : sumO (o :: l) = sizeO o + sumO l := by simp [sumO]
    have := sizeO_pos o
    rw [List.length_cons]
    omega
theorem heavy_no {l : List O} (h : heavyO l = false) : l.length ≤ 4096 ∧ sumO l ≤ 4096 := by
  have h1 : hvL 0 l ≤ 4096 := by simpa [heavyO] using h
  have := hvL_sum l 0 h1
  have := sumO_len l
  omega

set_option maxRecDepth 100000 in
set_option maxHeartbeats 2000000 in
theorem heavy_any {w : World} {l : List O} {v : Value} (h : Ops w v l) : Calls Try.prog 8 #[v] w fun e w' => e = .returned (.bool (heavyO l)) ∧ Below w.heap.size w w' := by
  obtain ⟨ad, c, rfl⟩ := h.shape
  have H := Lib.hid h
  clear h
  obtain ⟨m, hm⟩ : ∃ m, m = l.length := ⟨_, rfl⟩
  have M := Lib.hid hm.symm
  rw [← hm]
  rw [← hm] at H
  clear hm
  go_enter Try.func8, Try.ntmps8
  go_wp2_with fail
  go_loopw [3, 4] (fun n i wr => ∃ a k : Nat, n = .int .i64 a ∧ i = .int .i64 k ∧ k ≤ m ∧ k ≤ a ∧ a ≤ 140737488359425 ∧ hvL a (l.drop k) = hvL 0 l ∧ Below w.heap.size w wr) (fun _ i _ => m - (intOf i).toNat)
  case atStart => exact ⟨0, 0, rfl, rfl, Nat.zero_le _, Nat.le_refl _, by omega, by rw [List.drop_zero], Below.refl _ _⟩
  case round =>
    obtain ⟨a, k, rfl, rfl, hk, hka, ha, hs, hb⟩ := hrel
    have B := Lib.hid hb
    clear hb
    by_cases hgo : k < m ∧ a ≤ 4096
    · obtain ⟨h1, h2⟩ := hgo
      have hkl : k < l.length := by rw [M.out]; exact h1
      obtain ⟨u, b, o, rfl, hi, ho⟩ := (H.out.later B.out).nine hkl
      have hs2 := Lib.hid (show hvL (a + sizeO l[k]) (l.drop (k + 1)) = hvL 0 l from by
        rw [← hs, List.drop_eq_getElem_cons hkl, hvL, if_pos h2])
      have KS := Lib.hid (size_any hi)
      have hsz := size_le hi
      have hp := sizeO_pos l[k]
      have S1 := Lib.hid (hi.rows.shape)
      obtain ⟨x0, x1, x2, x3, x4, x5, x6, x7, x8, _⟩ := id ho
      obtain ⟨ad2, c2, rfl⟩ := hi.rows.shape
      unfold oV oC at KS
      generalize l[k] = X at *
      clear hs ho hi
      go_wp2_with fail
      refine KS.out.mono ?_
      rintro e w2 ⟨rfl, b2⟩
      have B2 := Lib.hid (B.out.trans (b2.mono B.out.size))
      clear b2 KS x0 x1 x2 x3 x4 x5 x6 x7 x8
      go_wp2_with fail
      go_roundw
      case rel => exact ⟨a + sizeO X, k + 1, by go_num, by go_num, h1, by omega, by omega, hs2.out, B2.out⟩
      case measure => simp [intOf]; omega
    · have E : Hid (hvL 0 l = a) := Lib.hid (by
        rw [← hs]
        by_cases h1 : k < l.length
        · rw [List.drop_eq_getElem_cons h1, hvL, if_neg (fun h => hgo ⟨by rw [← M.out]; exact h1, h⟩)]
        · rw [List.drop_of_length_le (by omega)]; rfl)
      have hw : (k < m ∧ 4096 < a) ∨ ¬ k < m := by omega
      clear hs hgo
      rcases hw with ⟨h1, h2⟩ | h1
      all_goals
        go_wp2_with fail
        go_ret
        exact ⟨by unfold heavyO; rw [E.out]; simp; omega, B.out⟩

end Go.Proofs.Ytfcibccipkokoaa.Op

namespace Go.Proofs.Ytfcibccipkokoaa.Op
open Go.RowKit
open Go.Proofs.Ytfcibccipkokoaa.Seq (strS Is)
open Go.Proofs.Ytfcibccipkokoaa.By
attribute [local go_sem ↓] Go.wp_at_zero Go.wp_at_succ

theorem take_eq {l m : List O} {k : Nat} (hl : l.length = m.length) (h : l.take k = m.take k) (hk : k < l.length) : (l = m ↔ l[k] = m[k]'(by omega) ∧ l.drop (k + 1) = m.drop (k + 1)) ∧ (l[k] = m[k]'(by omega) → l.take (k + 1) = m.take (k + 1)) := by
  have e1 : l = l.take k ++ l[k] :: l.drop (k + 1) := by rw [← List.drop_eq_getElem_cons hk, List.take_append_drop]
  have e2 : m = m.take k ++ m[k]'(by omega) :: m.drop (k + 1) := by rw [← List.drop_eq_getElem_cons (by omega), List.take_append_drop]
  constructor
  · constructor
    · rintro rfl; exact ⟨rfl, rfl⟩
    · rintro ⟨h1, h2⟩
      rw [e1, e2, h, h1, h2]
  · intro h1
    rw [List.take_succ_eq_append_getElem hk, List.take_succ_eq_append_getElem (by omega), h, h1]

theorem OAt.undrew {w : World} {b o : Nat} {x : O} {u : Value} (h : OAt w.drew b o x u) : OAt w b o x u := ⟨h.c0, h.c1, h.c2, h.c3, h.c4, h.c5, h.c6, h.c7, h.c8, h.lt⟩

set_option maxRecDepth 100000 in
set_option maxHeartbeats 4000000 in
theorem all_any {w : World} {l m : List O} {v1 v2 : Value} (h1 : Ops w v1 l) (h2 : Ops w v2 m) (hl : l.length ≤ 1000000) : Calls Try.prog 12 #[v1, v2] w fun e w' => e = .returned (.bool (decide (l = m))) ∧ Below w.heap.size w w' := by
  obtain ⟨ad1, c1, rfl⟩ := h1.shape
  obtain ⟨ad2, c2, rfl⟩ := h2.shape
  have H1 := Lib.hid h1
  have H2 := Lib.hid h2
  clear h1 h2
  by_cases hn : l.length = m.length
  · obtain ⟨n, hn2⟩ : ∃ n, n = l.length := ⟨_, rfl⟩
    have N1 := Lib.hid hn2.symm
    have N2 := Lib.hid (show m.length = n by omega)
    rw [← hn, ← hn2]
    rw [← hn, ← hn2] at H2
    rw [← hn2] at H1 hl
    clear hn hn2
    have hne : ((n : Int) != (n : Int)) = false := by simp
    go_enter Try.func12, Try.ntmps12
    go_wp2_with fail
    go_loopw [5] (fun i wr => ∃ k : Nat, i = .int .i64 k ∧ k ≤ n ∧ l.take k = m.take k ∧ Below w.heap.size w wr) (fun i _ => n - (intOf i).toNat)
    case atStart => exact ⟨0, rfl, Nat.zero_le _, by simp, Below.refl _ _⟩
    case round =>
      obtain ⟨k, rfl, hk, ht, hb⟩ := hrel
      have B := Lib.hid hb.drew
      have B0 := Lib.hid hb
      clear hb
      by_cases hlt : k < n
      · have k1 : k < l.length := by rw [N1.out]; exact hlt
        have k2 : k < m.length := by rw [N2.out]; exact hlt
        obtain ⟨u1, b1, o1, rfl, i1, p1⟩ := (H1.out.later B.out).nine k1
        obtain ⟨u2, b2, o2, rfl, i2, p2⟩ := (H2.out.later B.out).nine k2
        obtain ⟨a1, d1, rfl⟩ := i1.rows.shape
        obtain ⟨a2, d2, rfl⟩ := i2.rows.shape
        have TE := Lib.hid (take_eq (by rw [N1.out, N2.out]) ht k1)
        have KS := Lib.hid (rsame_any i1 i2)
        have P1 := Lib.hid p1
        have P2 := Lib.hid p2
        unfold oV oC at KS
        clear p1 p2 i1 i2 ht
        generalize l[k] = X at *
        generalize m[k] = Y at *
        have p1 : OAt wr b1 (o1 + k * 9) X (.slice a1 X.rows.length d1) := P1.out.undrew
        have p2 : OAt wr b2 (o2 + k * 9) Y (.slice a2 Y.rows.length d2) := P2.out.undrew
        obtain ⟨x0, x1, x2, x3, x4, x5, x6, x7, x8, _⟩ := p1
        obtain ⟨y0, y1, y2, y3, y4, y5, y6, y7, y8, _⟩ := p2
        have hkn : (k : Int) < n := by omega
        go_wp2_with fail
        (refine wp_region_still_tail 8 (by kernel_rfl) (by kernel_rfl) (still_of_quiet _ _ ?_); simp only [List.take_succ_cons, List.take_zero, List.drop_succ_cons, List.drop_zero]; (repeat (first | go_big_quiet_skip | (go_big_quiet_want; go_big_quiet_op; first | go_big_quiet_on | (apply Exists.intro; refine ⟨?_, ?_⟩; (first | fail); go_big_quiet_on)))); refine wpQuiet_nil ?_)
        change wpList _ _ _ _ _ wr.drew
        by_cases he : X = Y
        · rw [decide_eq_true he] at KS
          have NX := Lib.hid (TE.out.2 he)
          clear TE he
          go_wp2_with fail
          (with_reducible refine KS.out.mono ?_)
          rintro e w2 ⟨rfl, c2⟩
          have B2 := Lib.hid (B.out.trans (c2.mono B.out.size))
          clear c2 KS x0 x1 x2 x3 x4 x5 x6 x7 x8 y0 y1 y2 y3 y4 y5 y6 y7 y8
          go_wp2_with fail
          go_roundw
          case rel => exact ⟨k + 1, by go_num, hlt, NX.out, B2.out⟩
          case measure => simp [intOf]; omega
        · rw [decide_eq_false he] at KS
          have NE := Lib.hid (show decide (l = m) = false from decide_eq_false fun h => he (TE.out.1.1 h).1)
          clear TE he
          go_wp2_with fail
          (with_reducible refine KS.out.mono ?_)
          rintro e w2 ⟨rfl, c2⟩
          have B2 := Lib.hid (B.out.trans (c2.mono B.out.size))
          clear c2 KS x0 x1 x2 x3 x4 x5 x6 x7 x8 y0 y1 y2 y3 y4 y5 y6 y7 y8
          go_wp2_with fail
          go_ret
          exact ⟨by rw [NE.out]; rfl, B2.out⟩
      · obtain rfl : k = n := by omega
        have E := Lib.hid (show decide (l = m) = true from decide_eq_true (by
          rw [List.take_of_length_le (by rw [N1.out]; exact Nat.le_refl _), List.take_of_length_le (by rw [N2.out]; exact Nat.le_refl _)] at ht
          exact ht))
        clear ht
        go_wp2_with fail
        go_ret
        exact ⟨by rw [E.out]; rfl, B0.out⟩
  · have E := Lib.hid (show decide (l = m) = false from decide_eq_false fun h => hn (by rw [h]))
    have hne : ((l.length : Int) != (m.length : Int)) = true := by rw [bne_iff_ne]; omega
    clear hn
    go_enter Try.func12, Try.ntmps12
    go_wp2_with fail
    go_ret
    exact ⟨by rw [E.out]; rfl, Below.refl _ _⟩

end Go.Proofs.Ytfcibccipkokoaa.Op
