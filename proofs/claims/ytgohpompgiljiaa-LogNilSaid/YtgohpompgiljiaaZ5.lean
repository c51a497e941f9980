/-
  Walks: Append.
  Walks: slices.Delete at a log's records; Keep.
  Walks: what a sector tells; a stretch's place.
-/
import Derived.Laws.Tables
import Derived.Test.YtgohpompgiljiaaZ4
import Derived.Test.YtgohpompgiljiaaZ1
namespace Go.Proofs.Ytgohpompgiljiaa.Log
open Go.RowKit
open Go.Proofs.Ytgohpompgiljiaa.Sl (Sl Step re)
open Go.Proofs.Ytgohpompgiljiaa.Disk (grew)
open Go.Proofs.Ytgohpompgiljiaa.Seq (byteS recS recC all)
open Go.Proofs.Ytgohpompgiljiaa.Frame (L encF mayF may_iff mayF_no mayF_yes enc_size)
attribute [local go_sem ↓] Go.wp_at_zero Go.wp_at_succ

/-- a log's own blocks -/
def I3 (i k : Nat) : Prop := k = i ∨ k = i + 1 ∨ k = i + 2
theorem addR_raw {g : G} {pd at' : Nat} {s : ByteArray} (h1 : 1 ≤ s.size) (h2 : s.size ≤ 4096) : addR (rawG pd at' g) s = { rawG pd at' { g with recs := g.recs ++ [s] } with tail := g.tail } := by
  unfold addR rawG
  have e1 : g.next + lg s.size = ({ g with recs := g.recs ++ [s] } : G).next := by rw [app_next, lg_of h1 h2]
  have e2 : pos g.first g.recs ++ [(g.next, s)] = pos g.first (g.recs ++ [s]) := by rw [pos_app]; rfl
  simp only [e1, e2]
def AppP (i q pd at' : Nat) (T : Nat → Nat) (g : G) (s : ByteArray) (w : World) (e : Ending) (w' : World) : Prop :=
  e = .returned (.tuple #[.int .u64 (appN g s : Int), .int .i64 (appE g s : Int)]) ∧ ∃ T', Lg i T' w' q pd at' (appG g s) ∧ Step (I3 i) T T' w w'

section
variable {i q pd at' : Nat} {T : Nat → Nat} {w : World} {g : G}
set_option maxRecDepth 100000 in
set_option maxHeartbeats 4000000 in
theorem append_any (h : Lg i T w q pd at' g) (ht : g.next ≤ 900000000000) (s : ByteArray) (hs : s.size ≤ 140737488351232) :
    Calls Try.prog 10 #[.pointer (some ⟨q, 0, none⟩), .string s] w (AppP i q pd at' T g s w) := by
  have hwf := h.wf (by omega)
  have hok := h.ok
  obtain ⟨rv, tv, hL⟩ := h.ex
  have hip := hL.ipos
  have h0 : ¬ I3 i 0 := by unfold I3; omega
  have KM := Lib.hid (made_any hL h.ok.life1)
  have KR := Lib.hid (fun W (b : Below w.heap.size w W) => room_any (hL.later b) hwf (by show g.first ≤ g.next; unfold G.next; omega))
  rw [rawG_room h.ok] at KR
  have KE := Lib.hid (fun W => Frame.fencode_any g.next s W (by omega) hs)
  have LL := Lib.hid hL
  have LG := Lib.hid h
  have PO := Lib.hid (show ∀ (n x : Nat) (T' : Nat → Nat) (W : World), appN g s = n → appE g s = x → Lg i T' W q pd at' (appG g s) → Step (I3 i) T T' w W → AppP i q pd at' T g s w (.returned (.tuple #[.int .u64 (n : Int), .int .i64 (x : Int)])) W from fun n x T' W h1 h2 h3 h4 => ⟨by rw [h1, h2], T', h3, h4⟩)
  have lt := Lib.hid hL.lt
  have HAT := Lib.hid h.hat
  have hlow := h.ok.low
  have hnx : g.first ≤ g.next := by unfold G.next; omega
  have HOK := Lib.hid hok
  obtain ⟨_, _, _, _, _, c5, _⟩ := hL.cells
  change w.cell? ⟨q, 5, none⟩ = some (.int .u64 (g.next : Int)) at c5
  clear hwf hok
  by_cases h1 : s.size < 1 ∨ 4096 < s.size
  · obtain ⟨_, x2⟩ := mayF_no (lsn := g.next) (s := s) (by omega)
    have X := Lib.hid (show appE g s = 2 ∧ appN g s = 0 ∧ appG g s = g from by
      have e : appE g s = 2 := by unfold appE; rw [if_pos h1]
      exact ⟨e, by unfold appN; rw [e]; rfl, by unfold appG; rw [e]; rfl⟩)
    rw [x2] at KE
    clear x2 h1 hL h
    generalize encF g.next s = f at *
    go_enter Try.func10, Try.ntmps10
    go_wp2_with fail
    refine KM.out.mono ?_
    rintro e w1 ⟨rfl, rfl⟩
    go_wp2_with fail
    refine (KE.out _).mono ?_
    rintro e w1 ⟨rfl, b1⟩
    have P := Lib.hid (PO.out 0 2 T w1 X.out.2.1 X.out.1 (by rw [X.out.2.2]; exact LG.out.later b1) (Step.below _ lt.out b1))
    clear b1
    go_wp2_with fail
    go_ret2
    exact P.out
  · have hs1 : 1 ≤ s.size := by omega
    have hs2 : s.size ≤ 4096 := by omega
    obtain ⟨x0, x1, x2⟩ := mayF_yes (lsn := g.next) (s := s) (by omega) (by omega) (by omega)
    have hz := enc_size x0
    have HF := Lib.hid x0
    rw [x2] at KE
    clear x0 x1 x2 hL h
    have FF := Lib.hid (show encF g.next s = encF g.next s from rfl)
    obtain ⟨f, hf⟩ : ∃ f, f = encF g.next s := ⟨_, rfl⟩
    rw [← hf] at KE hz
    have HFF := Lib.hid hf
    clear hf FF
    have hrm : g.room ≤ 450560 := by unfold G.room; have := HOK.out.n12; omega
    by_cases h2 : g.room < 14 + s.size
    · have X := Lib.hid (show appE g s = 4 ∧ appN g s = 0 ∧ appG g s = g from by
        have e : appE g s = 4 := by unfold appE; rw [if_neg h1, if_pos h2]
        exact ⟨e, by unfold appN; rw [e]; rfl, by unfold appG; rw [e]; rfl⟩)
      have g1 : decide ((g.room : Int) < (f.size : Int)) = true := decide_eq_true (by omega)
      have g2 : decide (g.room < f.size) = true := decide_eq_true (by omega)
      have HZ := Lib.hid hz
      clear hz h1 h2
      generalize g.room = m at *
      go_enter Try.func10, Try.ntmps10
      go_wp2_with fail
      refine KM.out.mono ?_
      rintro e w1 ⟨rfl, rfl⟩
      go_wp2_with fail
      refine (KE.out _).mono ?_
      rintro e w1 ⟨rfl, b1⟩
      have B1 := Lib.hid b1
      have K2 := Lib.hid (KR.out w1 b1)
      clear b1 KR
      go_wp2_with fail
      refine K2.out.mono ?_
      rintro e w2 ⟨rfl, b2⟩
      have B2 := Lib.hid (B1.out.trans (b2.mono B1.out.size))
      have P := Lib.hid (PO.out 0 4 T w2 X.out.2.1 X.out.1 (by rw [X.out.2.2]; exact LG.out.later B2.out) (Step.below _ lt.out B2.out))
      clear b2
      go_wp2_with fail
      go_ret2
      exact P.out
    · have X := Lib.hid (show appE g s = 0 ∧ appN g s = g.next ∧ appG g s = { g with recs := g.recs ++ [s] } from by
        have e : appE g s = 0 := by unfold appE; rw [if_neg h1, if_neg h2]
        exact ⟨e, by unfold appN; rw [e]; rfl, by unfold appG; rw [e]; rfl⟩)
      have g1 : decide ((g.room : Int) < (f.size : Int)) = false := decide_eq_false (by omega)
      have g2 : decide (g.room < f.size) = false := decide_eq_false (by omega)
      have KC := Lib.hid (fun W => Sum.clone_any s W (by omega))
      have HZ := Lib.hid hz
      have RL := Lib.hid HOK.out.recs_len
      have h2' := Lib.hid h2
      clear hz h1 h2
      generalize hm : g.room = m at *
      have HM := Lib.hid hm
      clear hm
      go_enter Try.func10, Try.ntmps10
      go_wp2_with fail
      refine KM.out.mono ?_
      rintro e w1 ⟨rfl, rfl⟩
      go_wp2_with fail
      refine (KE.out _).mono ?_
      rintro e w1 ⟨rfl, b1⟩
      have B1 := Lib.hid b1
      have K2 := Lib.hid (KR.out w1 b1)
      clear b1 KR c5 KM KE
      go_wp2_with fail
      refine K2.out.mono ?_
      rintro e w2 ⟨rfl, b2⟩
      have B2 := Lib.hid (B1.out.trans (b2.mono B1.out.size))
      clear b2 K2 B1
      have L2 := Lib.hid (LL.out.later B2.out)
      obtain ⟨_, _, _, _, _, d5, _⟩ := L2.out.cells
      change w2.cell? ⟨q, 5, none⟩ = some (.int .u64 (g.next : Int)) at d5
      go_wp2_with fail
      refine (KC.out _).mono ?_
      rintro e w3 ⟨rfl, b3⟩
      have B3 := Lib.hid (B2.out.trans (b3.mono B2.out.size))
      have L3 := Lib.hid (L2.out.later b3)
      clear b3 KC B2 L2 d5
      have KA := Lib.hid (add_any L3.out (by show g.next ≤ _; omega) (by show (pos g.first g.recs).length ≤ _; rw [pos_len]; have := RL.out; omega) s hs)
      go_wp2_with fail
      refine KA.out.mono ?_
      rintro e w4 ⟨rfl, T4, rv4, l4, s4⟩
      rw [addR_raw hs1 hs2] at l4
      have L4 := Lib.hid l4
      have S4 := Lib.hid ((Step.below (I3 i) lt.out B3.out).trans (s4.mono (fun k hk => by unfold I3; omega)) h0)
      obtain ⟨ta, tn, tc, htv⟩ := l4.tail.shape3
      subst htv
      obtain ⟨_, _, _, _, _, _, _, _, c8, _⟩ := l4.cells
      have f8 := l4.free 8
      have hle := HOK.out.tail_len
      have htl : g.tail.length + f.data.toList.length ≤ 1000000000 := by
        have h3 := HOK.out.used
        have h4 := HOK.out.n12
        have h5 := beg_mono HOK.out.fl.1
        have h6 : f.data.toList.length = f.size := rfl
        have h7 := HZ.out
        omega
      have HTL := Lib.hid htl
      clear l4 s4 KA L3 B3 htl hle
      go_wp2_with (at_builtin; refine Sl.wpList_app (S := byteS) (m := f.data.toList) rfl _ _ rfl L4.out.tail (Sl.src_str f _) HTL.out rfl rfl ?_; intro v5 w5 t5 g5; have N5 := Lib.hid (L4.out.pushT t5 g5 (r' := rawG pd at' { g with recs := g.recs ++ [s] }) rfl (by show ({ g with recs := g.recs ++ [s] } : G).tail = g.tail ++ f.data.toList; rw [app_tail HOK.out, HFF.out]) rfl); obtain ⟨ad5, nn5, cp5, rfl⟩ := t5.shape3; have h25 := (L4.out.keptHead (by omega) g5).trans L4.out.head; have f25 : w5.frozen? ⟨q, 8, none⟩ = false := frozen_of_row _ _ _ _ _ h25; have c25 : w5.cell? ⟨q, 8, none⟩ = some (.slice ta tn tc) := (cell_of_row _ _ _ _ _ _ h25).trans rfl; clear h25 t5 g5)
      have P := Lib.hid (PO.out g.next 0 _ _ X.out.2.1 X.out.1 (by rw [X.out.2.2]; exact ⟨app_ok HOK.out hs1 hs2 (by rw [HM.out]; have := h2'.out; omega), ⟨_, _, N5.out.1⟩, HAT.out⟩) (S4.out.trans (N5.out.2.mono (fun k hk => by unfold I3; omega)) h0))
      clear N5 f25 c25
      go_wp2_with fail
      go_ret2
      exact P.out
end

end Go.Proofs.Ytgohpompgiljiaa.Log

namespace Go.Proofs.Ytgohpompgiljiaa.Log
open Go.RowKit
open Go.Proofs.Ytgohpompgiljiaa.Sl (Sl Step re)
open Go.Proofs.Ytgohpompgiljiaa.Disk (grew)
open Go.Proofs.Ytgohpompgiljiaa.Seq (byteS recS recC all)
attribute [local go_sem ↓] Go.wp_at_zero Go.wp_at_succ

theorem zero_rec (w : World) : (zeroValue recS.e).run Try.prog w = .ok recS.zero w := by kernel_rfl
theorem zero_rec1 : ∀ v ∈ recS.zero.cells.toList, v.oneCell' = true := by
  intro v hv
  simp [recS, Value.cells] at hv
  rcases hv with rfl | rfl <;> rfl
theorem wpList_clear {w w' : World} {ops : Array Oper} {rest : List Oper} {o : Oper} {a : Act} {Q : Exit → Act → World → Prop} (hgd : o.guard = none) (d : Operand) (t : TypeId) (x : Value) (ty : TypeId) (hty : o.type = ty) (ho : o.op = .call { callee := .builtin .clear, args := #[d], argTypes := #[t] })
    (hd : a.eval d = x) (hr : (Builtin.clear_ #[t] ty #[x]).run Try.prog w = .ok (.tuple #[]) w') (hn : wpList Try.prog ops Q rest (a.put o.dst (.tuple #[])) w') : wpList Try.prog ops Q (o :: rest) a w := by
  refine wpList_plain hgd fun K hK => ?_
  unfold Oper.wp execOp
  simp only [ho, resolve, invoke, builtin, Sem.run_bind, Sem.run_pure, Result.andThen_ok, List.map_toArray, List.map_cons, List.map_nil, hd, hty, hr]
  exact hK _ _ hn
theorem wpList_appIn {F : Nat → Prop} {w : World} {c n : Nat} {ad : Option Addr} {l m : List (Nat × ByteArray)} {x : Value} {ops : Array Oper} {rest : List Oper} {o : Oper} {a : Act} {Q : Exit → Act → World → Prop} (hgd : o.guard = none) (s d : Operand) (ho : o.op = .call { callee := .builtin .append, args := #[s, d], argTypes := #[recS.t, recS.t] })
    (h : Sl recS F w (.slice ad n c) l) (hs : Go.Src Try.prog recS.k recS.t x m.length (all recS m) w) (hr : n + m.length ≤ c) (h1 : a.eval s = .slice ad n c) (h2 : a.eval d = x)
    (hk : ∀ w', Sl recS F w' (.slice ad (n + m.length) c) (l ++ m) → Disk.Touch F w w' → wpList Try.prog ops Q rest (a.put o.dst (.slice ad (n + m.length) c)) w') : wpList Try.prog ops Q (o :: rest) a w := by
  refine wpList_plain hgd fun K hK => ?_
  obtain ⟨w', hrun, k1, k2⟩ := h.appIn o.type hs hr
  unfold Oper.wp execOp
  simp only [ho, resolve, invoke, builtin, Sem.run_bind, Sem.run_pure, Result.andThen_ok, List.map_toArray, List.map_cons, List.map_nil, h1, h2, hrun]
  exact hK _ _ (hk w' k1 k2)

def DelP (F : Nat → Prop) (l : List (Nat × ByteArray)) (i : Nat) (w : World) (e : Ending) (w' : World) : Prop := ∃ v', e = .returned v' ∧ Sl recS F w' v' (l.drop i) ∧ Disk.Touch F w w'
set_option maxRecDepth 100000 in
set_option maxHeartbeats 2000000 in
theorem delete_any {F : Nat → Prop} {w : World} {v : Value} {l : List (Nat × ByteArray)} (h : Sl recS F w v l) (i : Nat) (hi : i ≤ l.length) (_hl : l.length ≤ 1000000) :
    Calls Try.prog 38 #[v, .int .i64 0, .int .i64 (i : Int)] w (DelP F l i w) := by
  have PO := Lib.hid (show ∀ v' W, Sl recS F W v' (l.drop i) → Disk.Touch F w W → DelP F l i w (.returned v') W from fun v' W h1 h2 => ⟨v', rfl, h1, h2⟩)
  obtain ⟨ad, n, c, rfl⟩ := h.shape3
  obtain ⟨h1, h2, h3⟩ := h.cap
  have HN := Lib.hid h1
  rw [h1] at hi
  obtain ⟨x3, hx3⟩ := h.three hi
  obtain ⟨s0, k0⟩ := h.head0
  obtain ⟨xd, sd, kd⟩ := h.drop (k := i) (by omega)
  have H := Lib.hid h
  change ∀ W, (Instr.sliceAt 62 (.slice ad n c) (some (.int .i64 0)) (some (.int .i64 (i : Int))) (some (.int .i64 (n : Int)))).run Try.prog W = .ok x3 W at hx3
  change ∀ W, (Instr.sliceAt 62 (.slice ad n c) none (some (.int .i64 0)) none).run Try.prog W = .ok (.slice ad 0 c) W at s0
  change ∀ W, (Instr.sliceAt 62 (.slice ad n c) (some (.int .i64 (i : Int))) none none).run Try.prog W = .ok xd W at sd
  have K0 := Lib.hid k0
  have KD := Lib.hid kd
  have hdl : (l.drop i).length = n - i := by rw [List.length_drop, h1]
  clear h h1 k0 kd
  by_cases h0 : i = 0
  · subst h0
    have P := Lib.hid (PO.out _ w (by rw [List.drop_zero]; exact H.out) (Disk.Touch.refl _ _))
    clear s0 sd hdl
    go_enter Try.func38, Try.ntmps38
    go_wp2_with fail
    go_ret
    exact P.out
  · have e0 : ((0 : Int) == (i : Int)) = false := by rw [beq_eq_false_iff_ne]; omega
    have e1 : ((i : Int) == 0) = false := by rw [beq_eq_false_iff_ne]; omega
    have e2 : (i : Int) ≠ 0 := by omega
    have e3 : (0 : Int) ≠ (i : Int) := by omega
    obtain ⟨m, hm⟩ : ∃ m, m = l.drop i := ⟨_, rfl⟩
    rw [← hm] at KD hdl PO
    have HM := Lib.hid hm
    have HD := Lib.hid hdl
    have HR := Lib.hid (show 0 + m.length ≤ c by omega)
    clear hm h0 hdl
    go_enter Try.func38, Try.ntmps38
    go_upto_region 5 with fail
    (refine wp_region_still_tail 6 (by kernel_rfl) (by kernel_rfl) (still_of_quiet _ _ ?_); simp only [List.take_succ_cons, List.take_zero, List.drop_succ_cons, List.drop_zero]; (repeat (first | go_big_quiet_skip | (go_big_quiet_want; go_big_quiet_op; first | go_big_quiet_on | (apply Exists.intro; refine ⟨?_, ?_⟩; (first | fail); go_big_quiet_on)))); refine wpQuiet_nil ?_)
    change wpList _ _ _ _ _ w.drew
    have B0 := Lib.hid (show Below w.heap.size w w.drew from (Below.refl _ _).drew)
    have KD1 := Lib.hid (KD.out.later B0.out)
    have K01 := Lib.hid (K0.out.later B0.out)
    go_wp2_with (first | (at_builtin; refine wpList_appIn (m := m) rfl _ _ rfl K01.out KD1.out.src HR.out rfl rfl ?_; intro w5 k5 t5; rw [Nat.zero_add, List.nil_append] at k5; obtain ⟨xc, w6, hx6, hc6, k6, t6⟩ := k5.clear 0 zero_rec zero_rec1 (m := n) (by have := HD.out; omega) h2; change ∀ W, (Instr.sliceAt 62 (.slice ad m.length c) (some (.int .i64 (m.length : Int))) (some (.int .i64 (n : Int))) none).run Try.prog W = .ok xc W at hx6; have K6 := Lib.hid k6; have C6 := Lib.hid hc6; have T6 := Lib.hid ((Disk.Touch.ofNew B0.out).trans' (t5.trans' t6)); clear k6 k5 t5 t6 hc6) | (refine wpList_clear rfl (.tmp 31) 62 xc 0 rfl rfl rfl C6.out ?_))
    have P := Lib.hid (PO.out _ w6 K6.out T6.out)
    clear K6 T6 C6 hx6
    go_ret
    exact P.out

/-! ### Keep -/
def KpP (i q pd at' : Nat) (T : Nat → Nat) (g : G) (b : Nat) (w : World) (e : Ending) (w' : World) : Prop :=
  e = .returned (.int .i64 (kpE g b : Int)) ∧ ∃ T', Lg i T' w' q pd at' (kpG g b) ∧ Step (I3 i) T T' w w'
section
variable {i q pd at' : Nat} {T : Nat → Nat} {w : World} {g : G}
theorem kp_raw {b : Nat} (h : g.ok) (hb : g.hit b = true ∨ b = g.next) (hf : b ≤ g.forced) : rawG pd at' (kpY g b) = { rawG pd at' g with first := b, recs := (pos g.first g.recs).drop (g.idx b) } := by
  unfold rawG
  rw [kp_next h hb, kp_tail h hb hf, pos_drop, ← (G.at_idx hb).2]
  rfl
set_option maxRecDepth 100000 in
set_option maxHeartbeats 4000000 in
theorem keep_any (h : Lg i T w q pd at' g) (b : Nat) : Calls Try.prog 14 #[.pointer (some ⟨q, 0, none⟩), .int .u64 (b : Int)] w (KpP i q pd at' T g b w) := by
  have KF := Lib.hid (find_any h b)
  obtain ⟨rv, tv, hL⟩ := h.ex
  have KM := Lib.hid (made_any hL h.ok.life1)
  have hip := hL.ipos
  have h0 : ¬ I3 i 0 := by unfold I3; omega
  have LL := Lib.hid hL
  have HOK := Lib.hid h.ok
  have HAT := Lib.hid h.hat
  have lt := Lib.hid hL.lt
  have LG := Lib.hid h
  have PO := Lib.hid (show ∀ (x : Nat) (T' : Nat → Nat) (W : World), kpE g b = x → Lg i T' W q pd at' (kpG g b) → Step (I3 i) T T' w W → KpP i q pd at' T g b w (.returned (.int .i64 (x : Int))) W from fun x T' W h1 h2 h3 => ⟨by rw [h1], T', h2, h3⟩)
  obtain ⟨_, _, _, _, _, c5, c6, _⟩ := hL.cells
  change w.cell? ⟨q, 5, none⟩ = some (.int .u64 (g.next : Int)) at c5
  change w.cell? ⟨q, 6, none⟩ = some (.int .u64 (g.forced : Int)) at c6
  clear h hL
  by_cases hE : kpE g b = 0
  · obtain ⟨h1, h2⟩ := kpE_ok hE
    have Y := Lib.hid (show kpG g b = kpY g b from by unfold kpG; rw [if_pos hE])
    have EE := Lib.hid hE
    have OK2 := Lib.hid (kp_ok HOK.out h2 h1)
    have RW := Lib.hid (kp_raw (pd := pd) (at' := at') HOK.out h2 h1)
    have g1 : decide ((g.forced : Int) < (b : Int)) = false := decide_eq_false (by omega)
    have g2 : decide (g.forced < b) = false := decide_eq_false (by omega)
    have g3 : b ≤ g.forced := h1
    have hidx := (G.at_idx h2).1
    have hpl : g.idx b ≤ (rawG pd at' g).recs.length := by show _ ≤ (pos g.first g.recs).length; rw [pos_len]; exact hidx
    have KD := Lib.hid (fun w1 (L1 : Lr i T w1 q (rawG pd at' g) rv tv) => delete_any L1.recs (g.idx b) hpl (by show (pos g.first g.recs).length ≤ _; rw [pos_len]; have := HOK.out.recs_len; omega))
    have hq := LL.out.qlt
    have H2 := Lib.hid h2
    obtain ⟨f, hf⟩ : ∃ f, f = g.idx b := ⟨_, rfl⟩
    change Hid (∀ w1, Lr i T w1 q (rawG pd at' g) rv tv → Calls Try.prog 38 #[rv, .int .i64 0, .int .i64 (g.idx b : Int)] w1 (DelP (fun x => T x = i + 1) (rawG pd at' g).recs (g.idx b) w1)) at KD
    have RW2 : Hid (rawG pd at' (kpY g b) = { rawG pd at' g with first := b, recs := (rawG pd at' g).recs.drop f }) := Lib.hid (by rw [RW.out, hf]; rfl)
    rw [← hf] at KF KD
    clear hf hidx hpl h1 h2 hE RW
    obtain ⟨ra, rn, rc, hrv⟩ := LL.out.recs.shape3
    have key : ((g.hit b = true) ∨ (g.hit b = false ∧ ((b : Int) != (g.next : Int)) = false)) := by
      rcases H2.out with h | h
      · exact .inl h
      · cases hh : g.hit b with
        | true => exact .inl rfl
        | false => exact .inr ⟨rfl, by rw [h]; simp⟩
    have KEY := Lib.hid key
    clear key H2
    subst hrv
    rcases KEY.out with ht | ⟨ht, hne⟩
    all_goals
      rw [ht] at KF
      clear ht KEY
      go_enter Try.func14, Try.ntmps14
      go_wp2_with fail
      refine KM.out.mono ?_
      rintro e w1 ⟨rfl, rfl⟩
      go_wp2_with fail
      refine KF.out.mono ?_
      rintro e w1 ⟨rfl, b1⟩
      have B1 := Lib.hid b1
      have L1 := Lib.hid (LL.out.later b1)
      clear b1 c5 c6 KF KM
      obtain ⟨_, _, _, _, _, d5, d6, d7, _⟩ := L1.out.cells
      change w1.cell? ⟨q, 5, none⟩ = some (.int .u64 (g.next : Int)) at d5
      change w1.cell? ⟨q, 6, none⟩ = some (.int .u64 (g.forced : Int)) at d6
      have KD1 := Lib.hid (KD.out w1 L1.out)
      clear KD
      go_wp2_with fail
      refine KD1.out.mono ?_
      rintro e w2 ⟨v2, rfl, k2, t2⟩
      obtain ⟨a2, n2, c2, rfl⟩ := k2.shape3
      have h27 := (L1.out.keptHead (by omega) t2).trans L1.out.head
      have f27 : w2.frozen? ⟨q, 7, none⟩ = false := frozen_of_row _ _ _ _ _ h27
      have c27 : w2.cell? ⟨q, 7, none⟩ = some (.slice ra rn rc) := (cell_of_row _ _ _ _ _ _ h27).trans rfl
      have N2 := Lib.hid (L1.out.push (k2.mono (G := Disk.grew (fun x => T x = i + 1) w1 w2) (fun x hx _ => .inl hx)) t2 (r' := { rawG pd at' g with recs := (rawG pd at' g).recs.drop f }) rfl rfl rfl)
      have S1 := Lib.hid ((Step.below (I3 i) lt.out B1.out).trans (N2.out.2.mono (fun k hk => by unfold I3; omega)) h0)
      clear h27 k2 t2 KD1 d5 d6 d7
      go_upto_region 7 with fail
      clear f27 c27
      generalize w2.setCell _ _ = W3 at *
      generalize re _ _ _ _ = T3 at *
      have c34 := N2.out.1.cells.2.2.2.2.1
      have f34 := N2.out.1.free 4
      have N3 := Lib.hid (N2.out.1.set (r' := rawG pd at' (kpY g b)) 4 (.int .u64 (b : Int)) (by rw [RW2.out]; rfl) (by rw [RW2.out]) (by rw [RW2.out]))
      have P := Lib.hid (PO.out 0 T3 _ EE.out (by rw [Y.out]; exact ⟨OK2.out, ⟨_, _, N3.out.1⟩, HAT.out⟩) (S1.out.trans (N3.out.2.mono (fun k hk => .inl hk)) h0))
      clear N3 N2 S1
      go_wp2_with fail
      go_ret
      exact P.out
  · have Y := Lib.hid (show kpE g b = 2 ∧ kpG g b = g from by
      refine ⟨?_, by unfold kpG; rw [if_neg hE]⟩
      unfold kpE at hE ⊢
      split
      · rfl
      · rename_i hn; rw [if_neg hn] at hE; exact absurd rfl hE)
    by_cases h1 : g.forced < b
    · have g1 : decide ((g.forced : Int) < (b : Int)) = true := decide_eq_true (by omega)
      have g2 : decide (g.forced < b) = true := decide_eq_true (by omega)
      generalize g.hit b = t at KF
      clear hE
      go_enter Try.func14, Try.ntmps14
      go_wp2_with fail
      refine KM.out.mono ?_
      rintro e w1 ⟨rfl, rfl⟩
      go_wp2_with fail
      refine KF.out.mono ?_
      rintro e w1 ⟨rfl, b1⟩
      obtain ⟨_, _, _, _, _, d5, d6, d7, _⟩ := (LL.out.later b1).cells
      change w1.cell? ⟨q, 6, none⟩ = some (.int .u64 (g.forced : Int)) at d6
      have P := Lib.hid (PO.out 2 T w1 Y.out.1 (by rw [Y.out.2]; exact LG.out.later b1) (Step.below _ lt.out b1))
      clear b1 d5 d7
      go_wp2_with fail
      go_ret
      exact P.out
    · have hh : g.hit b = false ∧ b ≠ g.next := by
        unfold kpE at hE
        by_cases e : g.hit b = false ∧ b ≠ g.next
        · exact e
        · rw [if_neg (by rintro (h | h); · exact h1 h
                         · exact e h)] at hE
          exact absurd rfl hE
      have g1 : decide ((g.forced : Int) < (b : Int)) = false := decide_eq_false (by omega)
      have g2 : decide (g.forced < b) = false := decide_eq_false (by omega)
      have g3 : ((b : Int) != (g.next : Int)) = true := by rw [bne_iff_ne]; have := hh.2; omega
      have g4 : b ≤ g.forced := by omega
      rw [hh.1] at KF
      clear hE hh h1
      go_enter Try.func14, Try.ntmps14
      go_wp2_with fail
      refine KM.out.mono ?_
      rintro e w1 ⟨rfl, rfl⟩
      go_wp2_with fail
      refine KF.out.mono ?_
      rintro e w1 ⟨rfl, b1⟩
      obtain ⟨_, _, _, _, _, d5, d6, d7, _⟩ := (LL.out.later b1).cells
      change w1.cell? ⟨q, 6, none⟩ = some (.int .u64 (g.forced : Int)) at d6
      change w1.cell? ⟨q, 5, none⟩ = some (.int .u64 (g.next : Int)) at d5
      have P := Lib.hid (PO.out 2 T w1 Y.out.1 (by rw [Y.out.2]; exact LG.out.later b1) (Step.below _ lt.out b1))
      clear b1 d7
      go_wp2_with fail
      go_ret
      exact P.out
end

end Go.Proofs.Ytgohpompgiljiaa.Log

namespace Go.Proofs.Ytgohpompgiljiaa.Log
open Go.RowKit
open Go.Proofs.Ytgohpompgiljiaa.Sl (Sl Step re)
open Go.Proofs.Ytgohpompgiljiaa.Frame (L L_cut L_len L_ext)
attribute [local go_sem ↓] Go.wp_at_zero Go.wp_at_succ

/-! ### a piece of a text -/
set_option maxRecDepth 100000 in
theorem wcut_any (s : ByteArray) (t n : Nat) (w : World) (hs : s.size ≤ 140737488351232) (ht : t ≤ s.size) (hn : n ≤ 140737488351232) :
    Calls Try.prog 70 #[.string s, .int .i64 (t : Int), .int .i64 (n : Int)] w fun e w' => e = .returned (.tuple #[.string (if t + n ≤ s.size then s.extract t (t + n) else ⟨#[]⟩), .bool (decide (t + n ≤ s.size))]) ∧ Below w.heap.size w w' := by
  by_cases h : t + n ≤ s.size
  · have hb : hasB s.size (t : Int) (n : Int) = true := by unfold hasB; rw [decide_eq_true_iff]; omega
    have H := has_any s t n w (by unfold maxLen; omega) (by omega)
    rw [hb] at H
    rw [if_pos h, decide_eq_true h]
    have HH := Lib.hid H
    have HC := Lib.hid (fun W => Sum.clone_any (s.extract t (t + n)) W (by rw [ByteArray.size_extract]; omega))
    clear hb H
    go_enter Try.func70, Try.ntmps70
    go_wp2_with fail
    refine HH.out.mono ?_
    rintro e w1 ⟨rfl, rfl⟩
    go_wp2_with fail
    refine (HC.out _).mono ?_
    rintro e w1 ⟨rfl, b⟩
    go_wp2_with fail
    go_ret2
    exact ⟨rfl, b⟩
  · have hb : hasB s.size (t : Int) (n : Int) = false := by unfold hasB; rw [decide_eq_false_iff_not]; omega
    have H := has_any s t n w (by unfold maxLen; omega) (by omega)
    rw [hb] at H
    rw [if_neg h, decide_eq_false h]
    have HH := Lib.hid H
    clear hb H
    go_enter Try.func70, Try.ntmps70
    go_wp2_with fail
    refine HH.out.mono ?_
    rintro e w1 ⟨rfl, rfl⟩
    go_wp2_with fail
    go_ret2
    exact ⟨rfl, Below.refl _ _⟩

/-! ### what a sector tells -/
def pieC (a b : Nat) (t : ByteArray) : Array Value := #[.int .u64 (a : Int), .int .u64 (b : Int), .string t]
def pieV (a b : Nat) (t : ByteArray) : Value := .agg (pieC a b t)
theorem info_pie : (Try.prog.info? 112).map (·.size) = some 3 := by kernel_rfl
theorem pie_one (a b : Nat) (t : ByteArray) : (pieC a b t).all (·.oneCell') = true := Array.all_eq_true_iff_forall_mem.2 (by
  intro v hv
  simp [pieC] at hv
  rcases hv with rfl | rfl | rfl <;> rfl)
/-- the result's box, and a piece's -/
structure Pc (w0 w : World) (r g : Nat) (a b : Nat) (t : ByteArray) : Prop where
  res : w.heap[r]? = some (.cells (pieC 0 0 ⟨#[]⟩) 112 (0, 0))
  box : w.heap[g]? = some (.cells (pieC a b t) 112 (0, 0))
  hr : w0.heap.size ≤ r
  hg : w0.heap.size ≤ g
  ne : r ≠ g
  below : Below w0.heap.size w0 w
section
variable {w0 w w' : World} {r g a b a' b' : Nat} {t t' : ByteArray}
theorem Pc.later (h : Pc w0 w r g a b t) (l : Below w.heap.size w w') : Pc w0 w' r g a b t :=
  ⟨(l.block _ (Array.getElem?_eq_some_iff.1 h.res).1).trans h.res, (l.block _ (Array.getElem?_eq_some_iff.1 h.box).1).trans h.box, h.hr, h.hg, h.ne, h.below.trans (l.mono h.below.size)⟩
theorem Pc.new (w : World) : Pc w ((w.alloc (.cells (pieC 0 0 ⟨#[]⟩) 112)).alloc (.cells (pieC 0 0 ⟨#[]⟩) 112)) w.heap.size (w.heap.size + 1) 0 0 ⟨#[]⟩ := by
  obtain ⟨w1, e1⟩ : ∃ x, x = w.alloc (.cells (pieC 0 0 ⟨#[]⟩) 112) := ⟨_, rfl⟩
  have h1 : w1.heap[w.heap.size]? = some (.cells (pieC 0 0 ⟨#[]⟩) 112 (0, 0)) := by rw [e1]; exact heap_alloc_new _ _
  have z1 : w1.heap.size = w.heap.size + 1 := by rw [e1]; simp
  have b1 : Below w.heap.size w w1 := by rw [e1]; exact below_new _ _
  rw [← e1, ← z1]
  exact ⟨(Below.heap_alloc w1 _ _ (by omega)).trans h1, heap_alloc_new _ _, Nat.le_refl _, b1.size, by omega, b1.trans ((below_new w1 _).mono b1.size)⟩
theorem Pc.set (h : Pc w0 w r g a b t) (j : Nat) (v : Value) (e : (pieC a b t).setIfInBounds j v = pieC a' b' t') : Pc w0 (w.setCell ⟨g, j, none⟩ v) r g a' b' t' := by
  refine ⟨by rw [heap_setCell_other _ _ _ _ (show r ≠ g from h.ne)]; exact h.res, by rw [heap_setCell_same w g j _ _ _ h.box, e], h.hr, h.hg, h.ne, h.below.setCell h.hg _⟩
theorem Pc.cells (h : Pc w0 w r g a b t) : w.cell? ⟨g, 0, none⟩ = some (.int .u64 (a : Int)) ∧ w.cell? ⟨g, 1, none⟩ = some (.int .u64 (b : Int)) ∧ w.cell? ⟨g, 2, none⟩ = some (.string t) := by
  refine ⟨?_, ?_, ?_⟩ <;> (rw [cell_of_row _ _ _ _ _ _ h.box]; rfl)
theorem Pc.free (h : Pc w0 w r g a b t) (j : Nat) : w.frozen? ⟨g, j, none⟩ = false := frozen_of_row _ _ _ _ _ h.box
end
theorem results_pie {fn : Func} {p : Tmp} {T : TypeId} {f : Array Field} (h : fn.results = #[.cell p T]) (tmps : Array Value) (w : World) (g : Nat) (cs : Array Value) (hp : tmps.getD p undef = .pointer (some ⟨g, 0, none⟩)) (hg : w.heap[g]? = some (.cells cs T (0, 0)))
    (hu : Try.prog.underlying T = some (.struct f)) (hi : (Try.prog.info? T).map (·.size) = some cs.size) : (results fn tmps).run Try.prog w = .ok (.agg cs) w := by
  have hp' : tmps[p]?.getD undef = .pointer (some ⟨g, 0, none⟩) := by simpa using hp
  simp [results, h, hp', asAddr, run_loadVar_row w g T T cs (0, 0) _ hg hu rfl hi]
theorem get_part {s : ByteArray} (hs : s.size = 128) {a n : Nat} (h : a + n ≤ 128) (h1 : 1 ≤ n) (h8 : n ≤ 8) : getN s a n = (num (((L s).drop a).take n) : Int) := by
  unfold getN
  have e : getB s a n = true := by unfold getB mayB hasB; simp; omega
  rw [if_pos e]
  rfl

def ReadP (s : ByteArray) (w : World) (e : Ending) (w' : World) : Prop := e = .returned (pieV (plsn (L s)) (plife (L s)) (bs (ptext (L s)))) ∧ Below w.heap.size w w'
set_option maxRecDepth 100000 in
set_option maxHeartbeats 4000000 in
theorem rd_any (s : ByteArray) (w : World) (hs : s.size = 128) : Calls Try.prog 62 #[.string s] w (ReadP s w) := by
  have K0 := Lib.hid (fun W => show Calls Try.prog 69 #[.string s, .int .i64 0, .int .i64 8] W fun e w' => e = .returned (.tuple #[.int .u64 (plsn (L s) : Int), .bool (getB s 0 8)]) ∧ W = w' from by
    have := get_any s 0 8 W (by omega) (by omega)
    rw [show getN s 0 8 = (plsn (L s) : Int) from get_part (a := 0) (n := 8) hs (by omega) (by omega) (by omega)] at this
    exact this)
  have K1 := Lib.hid (fun W => show Calls Try.prog 69 #[.string s, .int .i64 8, .int .i64 8] W fun e w' => e = .returned (.tuple #[.int .u64 (plife (L s) : Int), .bool (getB s 8 8)]) ∧ W = w' from by
    have := get_any s 8 8 W (by omega) (by omega)
    rw [show getN s 8 8 = (plife (L s) : Int) from get_part (a := 8) (n := 8) hs (by omega) (by omega) (by omega)] at this
    exact this)
  have K2 := Lib.hid (fun W => show Calls Try.prog 69 #[.string s, .int .i64 16, .int .i64 2] W fun e w' => e = .returned (.tuple #[.int .u64 (pmany (L s) : Int), .bool (getB s 16 2)]) ∧ W = w' from by
    have := get_any s 16 2 W (by omega) (by omega)
    rw [show getN s 16 2 = (pmany (L s) : Int) from get_part (a := 16) (n := 2) hs (by omega) (by omega) (by omega)] at this
    exact this)
  have hm := pmany_lt (L s)
  have K3 := Lib.hid (fun W => show Calls Try.prog 70 #[.string s, .int .i64 18, .int .i64 (pmany (L s) : Int)] W fun e w' => e = .returned (.tuple #[.string (bs (ptext (L s))), .bool (decide (18 + pmany (L s) ≤ s.size))]) ∧ Below W.heap.size W w' from by
    have := wcut_any s 18 (pmany (L s)) W (by omega) (by omega) (by omega)
    have e : (if 18 + pmany (L s) ≤ s.size then s.extract 18 (18 + pmany (L s)) else ⟨#[]⟩) = bs (ptext (L s)) := by
      unfold ptext
      by_cases h : pmany (L s) ≤ 110
      · rw [if_pos (by omega), if_pos h]
        apply L_ext
        rw [L_bs, L_cut, Nat.add_sub_cancel_left]
      · rw [if_neg (by omega), if_neg h]; rfl
    rw [e] at this
    exact this)
  have T0 := Lib.hid (Pc.new w)
  have PO := Lib.hid (show ∀ W, Below w.heap.size w W → ReadP s w (.returned (pieV (plsn (L s)) (plife (L s)) (bs (ptext (L s))))) W from fun W h => ⟨rfl, h⟩)
  obtain ⟨t, ht⟩ : ∃ t, t = bs (ptext (L s)) := ⟨_, rfl⟩
  obtain ⟨a, ha⟩ : ∃ a, a = plsn (L s) := ⟨_, rfl⟩
  obtain ⟨b, hb⟩ : ∃ b, b = plife (L s) := ⟨_, rfl⟩
  obtain ⟨m, hmm⟩ : ∃ m, m = pmany (L s) := ⟨_, rfl⟩
  rw [← ht] at K3 PO
  rw [← ha] at K0 PO
  rw [← hb] at K1 PO
  rw [← hmm] at K2 K3 hm
  clear ht ha hb hmm
  generalize decide (18 + m ≤ s.size) = q3 at *
  generalize getB s 0 8 = q0 at *
  generalize getB s 8 8 = q1 at *
  generalize getB s 16 2 = q2 at *
  unfold pieC at T0
  go_enter Try.func62, Try.ntmps62
  go_wp2_with fail
  obtain ⟨r, hr⟩ : ∃ r, r = w.heap.size := ⟨_, rfl⟩
  obtain ⟨g, hg⟩ : ∃ g, g = w.heap.size + 1 := ⟨_, rfl⟩
  have T1 : Hid (Pc w ((w.alloc (.cells #[.int .u64 0, .int .u64 0, .string ⟨#[]⟩] 112)).alloc (.cells #[.int .u64 0, .int .u64 0, .string ⟨#[]⟩] 112)) r g 0 0 ⟨#[]⟩) := Lib.hid (by rw [hr, hg]; exact T0.out)
  rw [← hg, ← hr]
  clear T0
  have HR := Lib.hid hr
  clear hr hg
  generalize World.alloc _ (.cells #[.int .u64 0, .int .u64 0, .string ⟨#[]⟩] 112) = W1 at *
  refine (K0.out _).mono ?_
  rintro e w1 ⟨rfl, rfl⟩
  have c0 := T1.out.cells
  have f0 := T1.out.free 0
  have T2 := Lib.hid (T1.out.set 0 (.int .u64 (a : Int)) (a' := a) (b' := 0) (t' := ⟨#[]⟩) rfl)
  obtain ⟨c00, _, _⟩ := c0
  go_wp2_with fail
  clear c00 f0 T1
  generalize World.setCell _ _ _ = W2 at *
  refine (K1.out _).mono ?_
  rintro e w1 ⟨rfl, rfl⟩
  have T3 := Lib.hid (T2.out.set 1 (.int .u64 (b : Int)) (a' := a) (b' := b) (t' := ⟨#[]⟩) rfl)
  have f1 := T2.out.free 1
  have c1 := T2.out.cells.2.1
  go_wp2_with fail
  clear f1 c1 T2
  generalize World.setCell _ _ _ = W3 at *
  refine (K2.out _).mono ?_
  rintro e w1 ⟨rfl, rfl⟩
  have hmw : IntKind.i64.wrap (m : Int) = (m : Int) := wrap_i64 (by omega) (by omega)
  go_wp2_with fail
  refine (K3.out _).mono ?_
  rintro e w4 ⟨rfl, b4⟩
  have T4 := Lib.hid ((T3.out.later b4).set 2 (.string t) (a' := a) (b' := b) (t' := t) rfl)
  have f2 := (T3.out.later b4).free 2
  have c2 := (T3.out.later b4).cells.2.2
  clear b4 T3
  go_upto_region 6 with fail
  clear f2 c2
  generalize World.setCell _ _ _ = W5 at *
  obtain ⟨d0, d1, d2⟩ := T4.out.cells
  have HB := Lib.hid T4.out.res
  have HL := Lib.hid T4.out.below
  have HO := Lib.hid T4.out.hr
  clear T4
  go_wp2_with (refine wpList_store_row rfl 112 _ _ rfl r (pieC a b t) rfl rfl 112 (pieC 0 0 ⟨#[]⟩) HB.out info_pie rfl (pie_one _ _ _) ?_)
  exact bodyPost_ret (v := .agg (pieC a b t)) (results_pie Try.results62 _ _ r (pieC a b t) rfl (setRow_heap _ _ _ _ _ _ HB.out) Try.underlying112 info_pie) rfl (PO.out _ (below_setRow HL.out HO.out _))

end Go.Proofs.Ytgohpompgiljiaa.Log
