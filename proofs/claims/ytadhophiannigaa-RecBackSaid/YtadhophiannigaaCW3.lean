/- Walks: whether two lists are the same. -/
import Derived.Test.YtadhophiannigaaCW2
namespace Go.Proofs.Ytadhophiannigaa.Rec
open Go.RowKit
attribute [local go_sem ↓] Go.wp_at_zero Go.wp_at_succ

set_option maxRecDepth 100000 in
set_option maxHeartbeats 1000000 in
theorem di_ne {a b : Di} (h : a ≠ b) (W : World) : (binOp .neq 55 (.agg #[.int .u32 (a.page : Int), .int .u64 (a.lsn : Int)]) (.agg #[.int .u32 (b.page : Int), .int .u64 (b.lsn : Int)])).run Try.prog W = .ok (.bool true) W := by
  go_simp
  intro h1
  obtain ⟨x, y⟩ := a
  obtain ⟨x2, y2⟩ := b
  simp only at *
  intro h2
  exact h (by rw [show x = x2 by omega, show y = y2 by omega])
set_option maxRecDepth 100000 in
set_option maxHeartbeats 1000000 in
theorem di_same (a : Di) (W : World) : (binOp .neq 55 (.agg #[.int .u32 (a.page : Int), .int .u64 (a.lsn : Int)]) (.agg #[.int .u32 (a.page : Int), .int .u64 (a.lsn : Int)])).run Try.prog W = .ok (.bool false) W := by
  go_simp
set_option maxRecDepth 100000 in
set_option maxHeartbeats 1000000 in
theorem ac_ne {a b : Ac} (h : a ≠ b) (W : World) : (binOp .neq 57 (.agg #[.int .u64 (a.tx : Int), .int .u64 (a.first : Int), .int .u64 (a.last : Int), .int .u64 (a.next : Int)]) (.agg #[.int .u64 (b.tx : Int), .int .u64 (b.first : Int), .int .u64 (b.last : Int), .int .u64 (b.next : Int)])).run Try.prog W = .ok (.bool true) W := by
  go_simp
  intro h1 h2 h3
  obtain ⟨x, y, z, u⟩ := a
  obtain ⟨x2, y2, z2, u2⟩ := b
  simp only at *
  intro h4
  exact h (by rw [show x = x2 by omega, show y = y2 by omega, show z = z2 by omega, show u = u2 by omega])
set_option maxRecDepth 100000 in
set_option maxHeartbeats 1000000 in
theorem ac_same (a : Ac) (W : World) : (binOp .neq 57 (.agg #[.int .u64 (a.tx : Int), .int .u64 (a.first : Int), .int .u64 (a.last : Int), .int .u64 (a.next : Int)]) (.agg #[.int .u64 (a.tx : Int), .int .u64 (a.first : Int), .int .u64 (a.last : Int), .int .u64 (a.next : Int)])).run Try.prog W = .ok (.bool false) W := by
  go_simp

theorem eq_step {α} [DecidableEq α] {l m : List α} {k : Nat} (h : k < l.length) (h2 : k < m.length) : decide (l.drop k = m.drop k) = (decide (l[k] = m[k]) && decide (l.drop (k + 1) = m.drop (k + 1))) := by
  rw [Bool.eq_iff_iff, List.drop_eq_getElem_cons h, List.drop_eq_getElem_cons h2]
  simp only [List.cons.injEq, Bool.and_eq_true, decide_eq_true_eq]
theorem eq_start {α} [DecidableEq α] (l m : List α) : decide (l = m) = decide (l.drop 0 = m.drop 0) := by rw [List.drop_zero, List.drop_zero]

set_option maxRecDepth 100000 in
set_option maxHeartbeats 1000000 in
theorem eqdi_any {w : World} {v u : Value} {l m : List Di} (h : IsDi w v l) (hu : IsDi w u m) (hl : l.length ≤ 140737488351232) (_hm : m.length ≤ 140737488351232) :
    Calls Try.prog 38 #[v, u] w fun e w' => e = .returned (.bool (decide (l = m))) ∧ Below w.heap.size w w' := by
  have H := Lib.hid h
  have HU := Lib.hid hu
  obtain ⟨ad, c, rfl⟩ := h.form
  obtain ⟨ad2, c2, rfl⟩ := hu.form
  clear h hu
  by_cases hlen : l.length = m.length
  · have e := eq_start l m
    obtain ⟨n, hn⟩ : ∃ n, n = l.length := ⟨_, rfl⟩
    have N := Lib.hid hn
    have N2 : Hid (n = m.length) := Lib.hid (hn.trans hlen)
    rw [← hlen, ← hn] at HU ⊢
    rw [← hn] at H hl
    clear hn hlen _hm
    generalize decide (l = m) = res at *
    have E := Lib.hid e
    clear e
    go_enter Try.func38, Try.ntmps38
    go_wp2_with fail
    go_loopw [13] (fun i wr => ∃ (k : Nat), k ≤ n ∧ i = .int .i64 (k : Int) ∧ Below w.heap.size w wr ∧ res = decide (l.drop k = m.drop k)) (fun i _ => n - (intOf i).toNat)
    case atStart => exact ⟨0, by omega, rfl, Below.refl _ _, E.out⟩
    case round =>
      obtain ⟨k, hk, rfl, hb, he⟩ := hrel
      have HB := Lib.hid hb
      have HE := Lib.hid he
      clear hb he
      by_cases hlt : k < n
      · have hlt1 : k < l.length := by rw [← N.out]; exact hlt
        have hlt2 : k < m.length := by rw [← N2.out]; exact hlt
        obtain ⟨x, o, cap', hv, hat⟩ := (H.out.later HB.out).at hlt1
        obtain ⟨x2, o2, cap2, hv2, hat2⟩ := (HU.out.later HB.out).at hlt2
        simp only [Value.slice.injEq] at hv hv2
        obtain ⟨rfl, e9, rfl⟩ := hv
        obtain ⟨rfl, e8, rfl⟩ := hv2
        clear e9 e8
        have hs := eq_step hlt1 hlt2
        rw [← HE.out] at hs
        obtain ⟨c0, c1⟩ := hat
        obtain ⟨d0, d1⟩ := hat2
        generalize l[k] = q at *
        generalize m[k] = q2 at *
        have HS := Lib.hid hs
        clear hs hlt1 hlt2
        have NB := Lib.hid (HB.out.trans ((Below.refl wr.heap.size wr).drew.mono HB.out.size))
        by_cases hq : q = q2
        · subst hq
          have hne := di_same q
          have hr : res = decide (l.drop (k + 1) = m.drop (k + 1)) := by rw [HS.out, decide_eq_true rfl, Bool.true_and]
          have HR := Lib.hid hr
          clear hr
          go_wp2_with fail
          go_region
          go_wp2_with fail
          go_roundw
          case rel => exact ⟨k + 1, by omega, by go_num, NB.out, HR.out⟩
          case measure => simp [intOf]; omega
        · have hne := fun W => di_ne hq W
          have hr : res = false := by rw [HS.out, decide_eq_false hq]; rfl
          have HR := Lib.hid hr
          clear hr hq
          go_wp2_with fail
          go_region
          go_wp2_with fail
          go_ret
          exact ⟨ret_bool HR.out.symm, NB.out⟩
      · obtain rfl : k = n := by omega
        have hd : l.drop k = [] := List.drop_eq_nil_of_le (by rw [← N.out]; exact Nat.le_refl _)
        have hd2 : m.drop k = [] := List.drop_eq_nil_of_le (by rw [← N2.out]; exact Nat.le_refl _)
        have he := HE.out
        rw [hd, hd2, decide_eq_true rfl] at he
        have HR := Lib.hid he
        clear he hd hd2
        go_wp2_with fail
        go_ret
        exact ⟨ret_bool HR.out.symm, HB.out⟩
  · have e : decide (l = m) = false := decide_eq_false (fun e => hlen (by rw [e]))
    rw [e]
    clear e
    go_enter Try.func38, Try.ntmps38
    go_wp2_with fail
    go_ret
    exact ⟨rfl, Below.refl _ _⟩

set_option maxRecDepth 100000 in
set_option maxHeartbeats 1000000 in
theorem eqac_any {w : World} {v u : Value} {l m : List Ac} (h : IsAc w v l) (hu : IsAc w u m) (hl : l.length ≤ 140737488351232) (_hm : m.length ≤ 140737488351232) :
    Calls Try.prog 39 #[v, u] w fun e w' => e = .returned (.bool (decide (l = m))) ∧ Below w.heap.size w w' := by
  have H := Lib.hid h
  have HU := Lib.hid hu
  obtain ⟨ad, c, rfl⟩ := h.form
  obtain ⟨ad2, c2, rfl⟩ := hu.form
  clear h hu
  by_cases hlen : l.length = m.length
  · have e := eq_start l m
    obtain ⟨n, hn⟩ : ∃ n, n = l.length := ⟨_, rfl⟩
    have N := Lib.hid hn
    have N2 : Hid (n = m.length) := Lib.hid (hn.trans hlen)
    rw [← hlen, ← hn] at HU ⊢
    rw [← hn] at H hl
    clear hn hlen _hm
    generalize decide (l = m) = res at *
    have E := Lib.hid e
    clear e
    go_enter Try.func39, Try.ntmps39
    go_wp2_with fail
    go_loopw [13] (fun i wr => ∃ (k : Nat), k ≤ n ∧ i = .int .i64 (k : Int) ∧ Below w.heap.size w wr ∧ res = decide (l.drop k = m.drop k)) (fun i _ => n - (intOf i).toNat)
    case atStart => exact ⟨0, by omega, rfl, Below.refl _ _, E.out⟩
    case round =>
      obtain ⟨k, hk, rfl, hb, he⟩ := hrel
      have HB := Lib.hid hb
      have HE := Lib.hid he
      clear hb he
      by_cases hlt : k < n
      · have hlt1 : k < l.length := by rw [← N.out]; exact hlt
        have hlt2 : k < m.length := by rw [← N2.out]; exact hlt
        obtain ⟨x, o, cap', hv, hat⟩ := (H.out.later HB.out).at hlt1
        obtain ⟨x2, o2, cap2, hv2, hat2⟩ := (HU.out.later HB.out).at hlt2
        simp only [Value.slice.injEq] at hv hv2
        obtain ⟨rfl, e9, rfl⟩ := hv
        obtain ⟨rfl, e8, rfl⟩ := hv2
        clear e9 e8
        have hs := eq_step hlt1 hlt2
        rw [← HE.out] at hs
        obtain ⟨c0, c1, c2, c3⟩ := hat
        obtain ⟨d0, d1, d2, d3⟩ := hat2
        generalize l[k] = q at *
        generalize m[k] = q2 at *
        have HS := Lib.hid hs
        clear hs hlt1 hlt2
        have NB := Lib.hid (HB.out.trans ((Below.refl wr.heap.size wr).drew.mono HB.out.size))
        by_cases hq : q = q2
        · subst hq
          have hne := ac_same q
          have hr : res = decide (l.drop (k + 1) = m.drop (k + 1)) := by rw [HS.out, decide_eq_true rfl, Bool.true_and]
          have HR := Lib.hid hr
          clear hr
          go_wp2_with fail
          go_region
          go_wp2_with fail
          go_roundw
          case rel => exact ⟨k + 1, by omega, by go_num, NB.out, HR.out⟩
          case measure => simp [intOf]; omega
        · have hne := fun W => ac_ne hq W
          have hr : res = false := by rw [HS.out, decide_eq_false hq]; rfl
          have HR := Lib.hid hr
          clear hr hq
          go_wp2_with fail
          go_region
          go_wp2_with fail
          go_ret
          exact ⟨ret_bool HR.out.symm, NB.out⟩
      · obtain rfl : k = n := by omega
        have hd : l.drop k = [] := List.drop_eq_nil_of_le (by rw [← N.out]; exact Nat.le_refl _)
        have hd2 : m.drop k = [] := List.drop_eq_nil_of_le (by rw [← N2.out]; exact Nat.le_refl _)
        have he := HE.out
        rw [hd, hd2, decide_eq_true rfl] at he
        have HR := Lib.hid he
        clear he hd hd2
        go_wp2_with fail
        go_ret
        exact ⟨ret_bool HR.out.symm, HB.out⟩
  · have e : decide (l = m) = false := decide_eq_false (fun e => hlen (by rw [e]))
    rw [e]
    clear e
    go_enter Try.func39, Try.ntmps39
    go_wp2_with fail
    go_ret
    exact ⟨rfl, Below.refl _ _⟩

end Go.Proofs.Ytadhophiannigaa.Rec
