/-
  Walks: Force of no log; the law's works.
  Walks: LogNil.
-/
import Derived.Test.YtgohpompgiljiaaZ47
namespace Go.Proofs.Ytgohpompgiljiaa.Log
open Go.RowKit
open Go.Proofs.Ytgohpompgiljiaa.Sl (Sl Step re)
open Go.Proofs.Ytgohpompgiljiaa.Seq (byteS recS all all_byte)
open Go.Proofs.Ytgohpompgiljiaa.Disk (D Rep grew now)
open Go.Proofs.Ytgohpompgiljiaa.Frame (L encF mayF enc_size may_iff L_len L_ext scn)
attribute [local go_sem ↓] Go.wp_at_zero Go.wp_at_succ

/-- the cells that Force makes for itself, without a log -/
def boxN (w : World) : World := (w.alloc (.cells #[.pointer none] 29)).alloc (.cells #[.int .i64 0] 39)
set_option maxRecDepth 100000 in
set_option maxHeartbeats 1000000 in
theorem force_nil (b : Int) (w : World) : Calls Try.prog 11 #[.pointer none, .int .u64 b] w fun e w' => e = .returned (.int .i64 1) ∧ Below w.heap.size w w' := by
  have BB := Lib.hid (show Below w.heap.size w (boxN w) from ((Below.refl _ w).alloc (Nat.le_refl _) _).alloc (by simp) _)
  have b0 : (boxN w).cell? ⟨w.heap.size, 0, none⟩ = some (.pointer none) := by
    unfold boxN
    rw [World.cell?_alloc_lt _ _ _ (by simp)]
    exact cell_of_row _ _ 0 _ _ _ (heap_alloc_new w _)
  have b1 : (boxN w).heap[w.heap.size + 1]? = some (.cells #[.int .i64 0] 39) := by
    have := heap_alloc_new (w.alloc (.cells #[.pointer none] 29)) (.cells #[.int .i64 0] 39)
    rw [World.size_alloc] at this
    exact this
  have b1c : (boxN w).cell? ⟨w.heap.size + 1, 0, none⟩ = some (.int .i64 0) := cell_of_row _ _ 0 _ _ _ b1
  have b1f : (boxN w).frozen? ⟨w.heap.size + 1, 0, none⟩ = false := frozen_of_row _ _ _ _ _ b1
  have KM := Lib.hid (made_nil (boxN w))
  have P := Lib.hid (BB.out.setCell (p := ⟨w.heap.size + 1, 0, none⟩) (by show w.heap.size ≤ w.heap.size + 1; omega) (.int .i64 1))
  have C := Lib.hid (World.cell?_setCell_same (boxN w) ⟨w.heap.size + 1, 0, none⟩ (.int .i64 1) b1c)
  refine (callsIn_wide (n := 6)).1 ?_
  refine callsIn_of_wp_marks Try.func11 rfl trivial ?_ rfl
  simp only [Try.ntmps11, List.size_toArray, List.length_cons, List.length_nil, Nat.reduceAdd, Nat.reduceSub, Array.replicate_succ, Array.replicate_zero, List.push_toArray, List.append_toArray, List.nil_append, List.cons_append]
  refine wpIn_wide.2 ?_
  have hW : boxN w = (w.alloc (.cells #[.pointer none] 29)).alloc (.cells #[.int .i64 0] 39) := rfl
  clear b1
  go_wp2_with fail
  rw [← hW]
  clear hW
  refine KM.out.mono ?_
  rintro e w1 ⟨rfl, rfl⟩
  go_wp2_with fail
  exact ⟨_, leave_f rfl C.out, rfl, P.out⟩

/-! ### works -/
def sa : ByteArray := ⟨#[97]⟩
def ga : G := ⟨5, 1, 110, 110, 0, [], [sa]⟩
def gf : G := ⟨5, 1, 110, 125, 0, [], [sa]⟩
def ta : List UInt8 := L (encF 110 sa)
theorem sa_size : sa.size = 1 := rfl
theorem sa_may : mayF 110 sa = true := may_iff.2 ⟨by decide, by decide, by decide⟩
theorem ta_len : ta.length = 15 := by unfold ta; rw [L_len, enc_size sa_may, sa_size]
theorem ga_tail : ga.tail = ta := by
  show ([] ++ frs 110 [sa]).drop (beg 110 - beg 110) = ta
  rw [Nat.sub_self, List.drop_zero]
  show [] ++ (L (encF 110 sa) ++ []) = ta
  rw [List.nil_append, List.append_nil]; rfl
theorem fc_ga : fcG ga 110 = gf := by kernel_rfl
def dw : D := ⟨(List.replicate 6 (Disk.fullL 0)).set 2 (secL 1 1 ta), [], -1⟩
theorem fcD_ga : fcD (D.new 6) 1 ga 110 = dw := by
  unfold fcD
  rw [show fcB ga 110 = true from by kernel_rfl, if_pos rfl, ga_tail]
  have hn : nch ta = 1 := by unfold nch; rw [ta_len]
  have hc : ch ta 0 = ta := by unfold ch; rw [Nat.mul_zero, List.drop_zero, List.take_of_length_le (by rw [ta_len]; omega)]
  rw [hn]
  show ((D.new 6).write (1 + (1 + 0) % 5) (secL (1 + 0) 1 (ch ta 0))).sync = dw
  rw [hc]
  rfl
theorem strm_w : strm (secN dw 1 5) 2 5 (110 / 110) 0 = ta := by
  have h2 : secN dw 1 5 1 = secL 1 1 ta := by
    show now dw 2 = _
    rfl
  rw [strm_pos _ _ (by decide)]
  have e1 : (110 / 110 : Nat) = 1 := rfl
  rw [e1, h2, secL_lsn (by omega), secL_life (by omega), secL_text (by rw [ta_len]; omega), if_neg (by omega), if_pos (by rw [ta_len]; omega)]
theorem opT_w : opT ta 110 = [sa] := by
  unfold opT
  have e : bs (ta.drop (110 % 110)) = encF 110 sa := by
    apply L_ext
    rw [L_bs]
    rfl
  rw [e, scn_one (by decide) sa_may]
theorem opG_w : opG 5 2 110 ta = ⟨5, 2, 110, 125, 0, [], [sa]⟩ := by
  unfold opG
  rw [opT_w]
  rfl
theorem opX_w : opX 110 ta = false := by
  unfold opX
  rw [opT_w, ta_len]
  decide

/-- which blocks a call made -/
def mine (w w' : World) (b : Nat) : Nat := if w.heap.size ≤ b ∧ b < w'.heap.size then 1 else 0
theorem mine_lt (w w' : World) : ∀ b, mine w w' b ≠ 0 → b < w'.heap.size := fun b hb => by
  unfold mine at hb
  split at hb
  · rename_i h; exact h.2
  · exact absurd rfl hb
theorem mine_dk {w w' : World} {p : Nat} {d : D} (h : Rep w' p d (Disk.Fresh w w')) : Dk (mine w w') w' p d :=
  Rep.mono h (fun b hb => if_pos hb) (fun b hb => mine_lt w w' b (by rw [show mine w w' b = 1 from hb]; decide))
set_option maxRecDepth 100000 in
set_option maxHeartbeats 4000000 in
theorem works_any (w : World) : Calls Try.prog 7 #[] w fun e w' => e = .returned (.bool true) ∧ Below w.heap.size w w' := by
  have KD := Lib.hid (Disk.new_any 6 w (by decide) (by decide))
  change Hid (Calls Try.prog 23 #[.int .i64 6] w _) at KD
  go_enter Try.func7, Try.ntmps7
  go_wp2_with fail
  refine KD.out.mono ?_
  rintro e w1 ⟨rfl, r1, b1⟩
  obtain ⟨pd, hpd⟩ : ∃ pd, pd = w.heap.size + 1 := ⟨_, rfl⟩
  rw [← hpd] at r1 ⊢
  have B1 := Lib.hid b1
  have T1 := Lib.hid (mine_lt w w1)
  have D1 := Lib.hid (mine_dk r1)
  have KN := Lib.hid (new_any r1 1 5 1 (by decide) (by decide) (by decide) (by decide) (by decide))
  change Hid (Calls Try.prog 19 #[.pointer (some ⟨pd, 0, none⟩), .int .i64 1, .int .i64 5, .int .u64 1] w1 _) at KN
  clear hpd KD r1 b1
  go_wp2_with fail
  refine KN.out.mono ?_
  rintro e w2 ⟨q, rfl, hborn⟩
  have N2 := Lib.hid (hborn.lg T1.out (i := 2) (by decide) (by decide) (by decide) (by decide) (by decide) (by decide))
  have D2 := Lib.hid (D1.out.step N2.out.2 (by decide) T1.out (by decide))
  have KA := Lib.hid (append_any N2.out.1 (by decide) sa (by decide))
  unfold AppP at KA
  rw [show appN (newG 5 1) sa = 110 from by kernel_rfl, show appE (newG 5 1) sa = 0 from by kernel_rfl, show appG (newG 5 1) sa = ga from by kernel_rfl] at KA
  change Hid (Calls Try.prog 10 #[.pointer (some ⟨q, 0, none⟩), .string ⟨#[97]⟩] w2 fun e w' => e = .returned (.tuple #[.int .u64 110, .int .i64 0]) ∧ ∃ T', Lg 2 T' w' q pd 1 ga ∧ Step (I3 2) (one (mine w w1) q 2) T' w2 w') at KA
  have B2 := Lib.hid (B1.out.trans (hborn.2.2.mono B1.out.size))
  clear hborn KN
  go_wp2_with fail
  refine KA.out.mono ?_
  rintro e w3 ⟨rfl, T3, l3, s3⟩
  have L3 := Lib.hid l3
  obtain ⟨_, _, lr2⟩ := N2.out.1.ex
  have D3 := Lib.hid (D2.out.step s3 (by unfold I3; omega) lr2.lt (by unfold I3; omega))
  have S3 := Lib.hid (N2.out.2.mono (J := IO 2) (fun k hk => .inr (.inl hk)) |>.trans (s3.mono (fun k hk => .inr hk)) (by unfold IO I3; omega))
  have KF := Lib.hid (force_any l3 (by decide) D3.out rfl (by decide) (by decide) (by decide) 110 (by decide))
  unfold FcP at KF
  rw [fc_ga, fcD_ga, show fcE ga 110 = 0 from by kernel_rfl] at KF
  change Hid (Calls Try.prog 11 #[.pointer (some ⟨q, 0, none⟩), .int .u64 110] w3 fun e w' => e = .returned (.int .i64 0) ∧ ∃ T', Lg 2 T' w' q pd 1 gf ∧ Dk T' w' pd dw ∧ Step (IO 2) T3 T' w3 w') at KF
  clear KA l3 s3 lr2
  go_wp2_with fail
  refine KF.out.mono ?_
  rintro e w4 ⟨rfl, T4, l4, d4, s4⟩
  have L4 := Lib.hid l4
  obtain ⟨_, _, lr4⟩ := l4.ex
  have LT4 := Lib.hid lr4.lt
  have S4 := Lib.hid (S3.out.trans s4 (by unfold IO I3; omega))
  have KO := Lib.hid (open_any (i := 5) (by decide) lr4.lt d4 rfl (by decide) 1 5 2 110 (by decide) (by decide) (by decide) (by decide) (by decide) (by decide) (by decide) ta strm_w.symm)
  unfold OpnP opD at KO
  rw [opG_w, opX_w, show opE 110 ta = 0 from by kernel_rfl] at KO
  change Hid (Calls Try.prog 17 #[.pointer (some ⟨pd, 0, none⟩), .int .i64 1, .int .i64 5, .int .u64 2, .int .u64 110] w4 _) at KO
  clear KF l4 d4 s4 lr4
  go_wp2_with fail
  refine KO.out.mono ?_
  rintro e w5 (⟨h0, _⟩ | ⟨_, q2, T5, rfl, l5, d5, s5⟩)
  · omega
  rw [if_neg (by decide)] at d5
  have L5 := Lib.hid l5
  have D5 := Lib.hid d5
  obtain ⟨_, _, lr4⟩ := L4.out.ex
  have L45 := Lib.hid (show Lg 2 T5 w5 q pd 1 gf from ⟨L4.out.ok, ⟨_, _, lr4.step s5 (by unfold IO I3; omega) (by unfold IO I3; omega) (by unfold IO I3; omega) (by unfold IO I3; omega)⟩, L4.out.hat⟩)
  have hb5 : Below w.heap.size w w5 := B1.out.trans (by
    have h5 := (S4.out.mono (J := fun k => IO 2 k ∨ IO 5 k) (fun k hk => .inl hk)).trans (s5.mono (fun k hk => .inr hk)) (by unfold IO I3; omega)
    refine ⟨h5.touch.os, h5.touch.tape, h5.touch.output, h5.touch.size, fun k hk => h5.touch.block k (Nat.lt_of_lt_of_le hk B1.out.size) ?_⟩
    rw [show mine w w1 k = 0 from if_neg (by omega)]
    unfold IO I3
    omega)
  have KR := Lib.hid (read_any l5 (by decide) 110)
  rw [show rdS ⟨5, 2, 110, 125, 0, [], [sa]⟩ 110 = sa from by kernel_rfl, show rdN ⟨5, 2, 110, 125, 0, [], [sa]⟩ 110 = 125 from by kernel_rfl, show rdE ⟨5, 2, 110, 125, 0, [], [sa]⟩ 110 = 0 from by kernel_rfl] at KR
  change Hid (Calls Try.prog 18 #[.pointer (some ⟨q2, 0, none⟩), .int .u64 110] w5 fun e w' => e = .returned (.tuple #[.string ⟨#[97]⟩, .int .u64 125, .int .i64 0]) ∧ Below w5.heap.size w5 w') at KR
  clear KO l5 d5 s5 lr4
  go_wp2_with fail
  refine KR.out.mono ?_
  rintro e w6 ⟨rfl, b6⟩
  have KN := Lib.hid (new_arg (D5.out.later b6) 2 5 1 (by decide) (by decide) (by decide) (by decide) (by decide))
  change Hid (Calls Try.prog 19 #[.pointer (some ⟨pd, 0, none⟩), .int .i64 2, .int .i64 5, .int .u64 1] w6 _) at KN
  go_wp2_with fail
  refine KN.out.mono ?_
  rintro e w7 ⟨rfl, b7⟩
  have B7 := b6.trans (b7.mono b6.size)
  obtain ⟨_, _, la⟩ := (L45.out.later B7).ex
  obtain ⟨_, _, lb⟩ := (L5.out.later B7).ex
  have K1 := Lib.hid (next_any la (by show (1 : Nat) ≤ 1; decide))
  have K2 := Lib.hid (forced_any la (by show (1 : Nat) ≤ 1; decide))
  have K3 := Lib.hid (next_any lb (by show (1 : Nat) ≤ 2; decide))
  have K4 := Lib.hid (room_any la ((L45.out.later B7).wf (by decide)) (by show (110 : Nat) ≤ 125; decide))
  rw [rawG_room L45.out.ok] at K4
  change Hid (Calls Try.prog 12 #[.pointer (some ⟨q, 0, none⟩)] w7 fun e w' => e = .returned (.int .u64 125) ∧ w7 = w') at K1
  change Hid (Calls Try.prog 13 #[.pointer (some ⟨q, 0, none⟩)] w7 fun e w' => e = .returned (.int .u64 125) ∧ w7 = w') at K2
  change Hid (Calls Try.prog 12 #[.pointer (some ⟨q2, 0, none⟩)] w7 fun e w' => e = .returned (.int .u64 125) ∧ w7 = w') at K3
  change Hid (Calls Try.prog 22 #[.pointer (some ⟨q, 0, none⟩)] w7 fun e w' => e = .returned (.int .i64 535) ∧ Below w7.heap.size w7 w') at K4
  have PE := Lib.hid (show ∀ W, Below w7.heap.size w7 W → Below w.heap.size w W from fun W b => hb5.trans ((B7.mono hb5.size).trans (b.mono (Nat.le_trans hb5.size B7.size))))
  clear b6 b7 B7 la lb hb5 KR KN
  go_wp2_with fail
  refine K1.out.mono ?_
  rintro e w8 ⟨rfl, rfl⟩
  go_wp2_with fail
  refine K2.out.mono ?_
  rintro e w8 ⟨rfl, rfl⟩
  go_wp2_with fail
  refine K3.out.mono ?_
  rintro e w8 ⟨rfl, rfl⟩
  go_wp2_with fail
  refine K4.out.mono ?_
  rintro e w8 ⟨rfl, b8⟩
  have P8 := Lib.hid (PE.out w8 b8)
  clear b8
  go_wp2_with fail
  go_ret
  exact ⟨rfl, P8.out⟩

end Go.Proofs.Ytgohpompgiljiaa.Log

namespace Go.Proofs.Ytgohpompgiljiaa.Log
open Go.RowKit
attribute [local go_sem ↓] Go.wp_at_zero Go.wp_at_succ

set_option maxRecDepth 100000 in
set_option maxHeartbeats 4000000 in
theorem nil_law {w : World} {lsn n : Int} {s : ByteArray} (hs : s.size ≤ 140737488351232) :
    Calls Try.prog 4 #[.int .u64 lsn, .int .i64 n, .string s] w fun e w' => e = .returned (.bool true) ∧ Below w.heap.size w w' := by
  have KW := Lib.hid (fun W => works_any W)
  by_cases h : 1024 < s.size
  · have x1 : decide ((1024 : Int) < (s.size : Int)) = true := decide_eq_true (by omega)
    have x1' : decide (1024 < s.size) = true := decide_eq_true h
    go_enter Try.func4, Try.ntmps4
    go_wp2_with fail
    refine (KW.out _).mono ?_
    rintro e w1 ⟨rfl, b1⟩
    have B1 := Lib.hid b1
    clear b1
    go_wp2_with fail
    go_ret
    exact ⟨rfl, B1.out⟩
  · have x1 : decide ((1024 : Int) < (s.size : Int)) = false := decide_eq_false (by omega)
    have x1' : decide (1024 < s.size) = false := decide_eq_false h
    have K1 := Lib.hid (fun W => append_nil s W)
    have K2 := Lib.hid (fun W => read_nil lsn W)
    have K3 := Lib.hid (fun W => new_nil 0 8 1 W)
    have K4 := Lib.hid (fun W => open_nil 0 8 1 110 W)
    have K5 := Lib.hid (fun W => force_nil lsn W)
    have K6 := Lib.hid (fun W => keep_nil lsn W)
    have K7 := Lib.hid (fun W => reserve_nil n W)
    have K8 := Lib.hid (fun W => first_nil W)
    have K9 := Lib.hid (fun W => next_nil W)
    have K10 := Lib.hid (fun W => forced_nil W)
    have K11 := Lib.hid (fun W => reserved_nil W)
    have K12 := Lib.hid (fun W => room_nil W)
    clear h
    go_enter Try.func4, Try.ntmps4
    go_wp2_with fail
    refine (K1.out _).mono ?_
    rintro e w1 ⟨rfl, rfl⟩
    go_wp2_with fail
    refine (K2.out _).mono ?_
    rintro e w1 ⟨rfl, rfl⟩
    go_wp2_with fail
    refine (K3.out _).mono ?_
    rintro e w1 ⟨rfl, b1⟩
    have B1 := Lib.hid b1
    clear b1
    go_wp2_with fail
    refine (K4.out _).mono ?_
    rintro e w2 ⟨rfl, b2⟩
    have B2 := Lib.hid (B1.out.trans (b2.mono B1.out.size))
    clear b2 B1
    go_wp2_with fail
    refine (K5.out _).mono ?_
    rintro e w3 ⟨rfl, b3⟩
    have B3 := Lib.hid (B2.out.trans (b3.mono B2.out.size))
    clear b3 B2
    go_wp2_with fail
    refine (K6.out _).mono ?_
    rintro e w4 ⟨rfl, rfl⟩
    go_wp2_with fail
    refine (K7.out _).mono ?_
    rintro e w4 ⟨rfl, rfl⟩
    go_wp2_with fail
    refine (K8.out _).mono ?_
    rintro e w4 ⟨rfl, rfl⟩
    go_wp2_with fail
    refine (K9.out _).mono ?_
    rintro e w4 ⟨rfl, rfl⟩
    go_wp2_with fail
    refine (K10.out _).mono ?_
    rintro e w4 ⟨rfl, rfl⟩
    go_wp2_with fail
    refine (K11.out _).mono ?_
    rintro e w4 ⟨rfl, rfl⟩
    go_wp2_with fail
    refine (K12.out _).mono ?_
    rintro e w4 ⟨rfl, rfl⟩
    go_wp2_with fail
    refine (KW.out _).mono ?_
    rintro e w5 ⟨rfl, b5⟩
    have B5 := Lib.hid (B3.out.trans (b5.mono B3.out.size))
    clear b5
    go_wp2_with fail
    go_ret
    exact ⟨rfl, B5.out⟩

end Go.Proofs.Ytgohpompgiljiaa.Log
