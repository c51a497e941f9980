/-
  PageReads holds for every input: which page bytes are, and what is torn between two. No condition besides those of the statement.
-/
import Derived.Test.YtmandeohbiagfaaRows
import Derived.WalkKit
import Derived.ProofKit
import Derived.OpenShut
import Derived.ShutString
import Derived.ChangeOld
import Derived.Below
import Derived.Carry
import Derived.SizedLaws
import Derived.Test.YtmandeohbiagfaaZ7
namespace Go.Proofs.Ytmandeohbiagfaa.Page
open Go.RowKit Slot
attribute [local go_sem ↓] Go.wp_at_zero Go.wp_at_succ

set_option maxRecDepth 100000 in
set_option maxHeartbeats 4000000 in
theorem preads_walk {w : World} {s o n : ByteArray} {v : Value} {l : List Bool} (hs : s.size ≤ 281474976710656) (ho : o.size ≤ 281474976710656) (hn : n.size ≤ 281474976710656) (hc : NilOk v) (ht : Tru w v l) (hl : l.length ≤ 140737488351232) :
    Calls Try.prog 4 #[.string s, .string o, .string n, v] w fun e w' => e = .returned (.bool true) ∧ Below w.heap.size w w' := by
  have al := Lib.hid alive_any
  have T0 := Lib.hid ht
  have NIL := Lib.hid hc
  obtain ⟨ad, c, rfl, _⟩ := id ht
  have s0 : (0 : Int) ≤ (s.size : Int) := Int.natCast_nonneg _
  have o0 : (0 : Int) ≤ (o.size : Int) := Int.natCast_nonneg _
  have n0 : (0 : Int) ≤ (n.size : Int) := Int.natCast_nonneg _
  have s1 : (s.size : Int) ≤ 281474976710656 := by omega
  have o1 : (o.size : Int) ≤ 281474976710656 := by omega
  have n1 : (n.size : Int) ≤ 281474976710656 := by omega
  by_cases D : 2048 < s.size
  · have d1 : decide (2048 < (s.size : Int)) = true := decide_eq_true (by omega)
    have d2 : decide (2048 < s.size) = true := decide_eq_true (by omega)
    clear D
    go_enter Try.func4, Try.ntmps4
    go_wp2_with fail
    refine (al.out _).mono ?_
    rintro e w1 ⟨rfl, b1⟩
    have B := Lib.hid b1
    clear b1
    go_wp2_with fail
    go_ret
    exact ⟨rfl, B.out⟩
  · have d1 : decide (2048 < (s.size : Int)) = false := decide_eq_false (by omega)
    have d2 : decide (2048 < s.size) = false := decide_eq_false (by omega)
    have Dd := Lib.hid D
    clear D
    by_cases D : 2048 < o.size
    · have e1 : decide (2048 < (o.size : Int)) = true := decide_eq_true (by omega)
      have e2 : decide (2048 < o.size) = true := decide_eq_true (by omega)
      clear D
      go_enter Try.func4, Try.ntmps4
      go_wp2_with fail
      refine (al.out _).mono ?_
      rintro e w1 ⟨rfl, b1⟩
      have B := Lib.hid b1
      clear b1
      go_wp2_with fail
      go_ret
      exact ⟨rfl, B.out⟩
    · have e1 : decide (2048 < (o.size : Int)) = false := decide_eq_false (by omega)
      have e2 : decide (2048 < o.size) = false := decide_eq_false (by omega)
      have De := Lib.hid D
      clear D
      by_cases D : 2048 < n.size
      · have f1 : decide (2048 < (n.size : Int)) = true := decide_eq_true (by omega)
        have f2 : decide (2048 < n.size) = true := decide_eq_true (by omega)
        clear D
        go_enter Try.func4, Try.ntmps4
        go_wp2_with fail
        refine (al.out _).mono ?_
        rintro e w1 ⟨rfl, b1⟩
        have B := Lib.hid b1
        clear b1
        go_wp2_with fail
        go_ret
        exact ⟨rfl, B.out⟩
      · have f1 : decide (2048 < (n.size : Int)) = false := decide_eq_false (by omega)
        have f2 : decide (2048 < n.size) = false := decide_eq_false (by omega)
        have Df := Lib.hid D
        clear D
        by_cases D : 20 < l.length
        · have g1 : decide (20 < (l.length : Int)) = true := decide_eq_true (by omega)
          have g2 : decide (20 < l.length) = true := decide_eq_true (by omega)
          clear D
          go_enter Try.func4, Try.ntmps4
          go_wp2_with fail
          refine (al.out _).mono ?_
          rintro e w1 ⟨rfl, b1⟩
          have B := Lib.hid b1
          clear b1
          go_wp2_with fail
          go_ret
          exact ⟨rfl, B.out⟩
        · have g1 : decide (20 < (l.length : Int)) = false := decide_eq_false (by omega)
          have g2 : decide (20 < l.length) = false := decide_eq_false (by omega)
          have Dg := Lib.hid D
          clear D
          obtain ⟨q, cc, hq⟩ := dec_ex s
          have K18 := Lib.hid (fun W => decode_any s W hs hq)
          have K19 := Lib.hid (fun W => rdecode_any s W hs hq)
          have QL := Lib.hid (dec_len hq)
          have K20 := Lib.hid (fun W v (h : Tru W v l) => torn_any o n ho hn h (by have := Dg.out; omega))
          have K21 := Lib.hid (fun W v (h : Tru W v l) => rtorn_any o n ho hn h (by have := Dg.out; omega))
          have LEN := Lib.hid (show l.length ≤ 1000000 by have := Dg.out; omega)
          generalize tornS o n l = X at *
          generalize tornE o n = E at *
          clear ht hc hl hs ho hn hq
          go_enter Try.func4, Try.ntmps4
          go_wp2_with fail
          refine (K18.out _).mono ?_
          rintro e w1 ⟨b1, v1, rfl, r1⟩
          obtain ⟨ad1, c1, rfl, _⟩ := id r1
          have TR1 := Lib.hid (T0.out.later b1)
          have A1 : Hid (Bx w (w1.alloc (.cells #[.int .u8 (q.kind : Int), .int .u8 (q.level : Int), .int .u32 (q.id : Int), .int .u64 (q.lsn : Int), .int .u32 (q.next : Int), .slice ad1 q.rows.length c1] 26)) w1.heap.size q (.slice ad1 q.rows.length c1)) := Lib.hid (Bx.make r1 b1)
          have TR2 := Lib.hid (TR1.out.later ((Below.refl _ _).alloc (Nat.le_refl _) (.cells #[.int .u8 (q.kind : Int), .int .u8 (q.level : Int), .int .u32 (q.id : Int), .int .u64 (q.lsn : Int), .int .u32 (q.next : Int), .slice ad1 q.rows.length c1] 26)))
          clear b1 r1 T0 TR1 K18
          unfold pgV
          go_wp2_with fail
          generalize w1.alloc (.cells #[.int .u8 (q.kind : Int), .int .u8 (q.level : Int), .int .u32 (q.id : Int), .int .u64 (q.lsn : Int), .int .u32 (q.next : Int), .slice ad1 q.rows.length c1] 26) = W1 at *
          generalize w1.heap.size = g1 at *
          refine (K19.out _).mono ?_
          rintro e w2 ⟨b2, v2, rfl, r2⟩
          obtain ⟨ad2, c2, rfl, _⟩ := id r2
          have A2 := Lib.hid (A1.out.later b2)
          have TR3 := Lib.hid (TR2.out.later b2)
          have C1 : Hid (Bx w (w2.alloc (.cells #[.int .u8 (q.kind : Int), .int .u8 (q.level : Int), .int .u32 (q.id : Int), .int .u64 (q.lsn : Int), .int .u32 (q.next : Int), .slice ad2 q.rows.length c2] 26)) w2.heap.size q (.slice ad2 q.rows.length c2)) := Lib.hid (Bx.make r2 A2.out.below)
          have A3 := Lib.hid (A2.out.later ((Below.refl _ _).alloc (Nat.le_refl _) (.cells #[.int .u8 (q.kind : Int), .int .u8 (q.level : Int), .int .u32 (q.id : Int), .int .u64 (q.lsn : Int), .int .u32 (q.next : Int), .slice ad2 q.rows.length c2] 26)))
          have TR4 := Lib.hid (TR3.out.later ((Below.refl _ _).alloc (Nat.le_refl _) (.cells #[.int .u8 (q.kind : Int), .int .u8 (q.level : Int), .int .u32 (q.id : Int), .int .u64 (q.lsn : Int), .int .u32 (q.next : Int), .slice ad2 q.rows.length c2] 26)))
          clear b2 r2 A1 A2 TR2 TR3 K19
          unfold pgV
          go_upto_region 5 with fail
          generalize w2.alloc (.cells #[.int .u8 (q.kind : Int), .int .u8 (q.level : Int), .int .u32 (q.id : Int), .int .u64 (q.lsn : Int), .int .u32 (q.next : Int), .slice ad2 q.rows.length c2] 26) = W2 at *
          generalize w2.heap.size = g2 at *
          go_wp2_with (refine wpList_app_bools rfl _ _ rfl TR4.out NIL.out LEN.out rfl rfl ?_; intro v5 w5 t5 b5; have T5 := Lib.hid t5; have B5 := Lib.hid b5; clear t5 b5)
          refine (K20.out _ _ T5.out).mono ?_
          rintro e w6 ⟨rfl, b6⟩
          have A6 := Lib.hid ((A3.out.later B5.out).later b6)
          have C6 := Lib.hid ((C1.out.later B5.out).later b6)
          have T6 := Lib.hid ((TR4.out.later B5.out).later b6)
          clear b6 A3 C1 TR4 T5 B5 K20
          go_wp2_with fail
          refine (K21.out _ _ T6.out).mono ?_
          rintro e w7 ⟨rfl, b7⟩
          have A7 := Lib.hid (A6.out.later b7)
          have C7 := Lib.hid (C6.out.later b7)
          clear b7 A6 C6 T6 K21
          obtain ⟨a0, a1, a2, a3, a4, a5⟩ := A7.out.six
          obtain ⟨k0, k1, k2, k3, k4, k5⟩ := C7.out.six
          have eb := beq_yes X
          go_wp2_with fail
          change Calls Try.prog _ #[pgV q (.slice ad1 q.rows.length c1), pgV q (.slice ad2 q.rows.length c2)] w7 _
          refine (rsame_any q q A7.out.rows C7.out.rows QL.out).mono ?_
          rw [(same_iff q q).2 rfl]
          rintro e w8 ⟨rfl, b8⟩
          have A8 := Lib.hid (A7.out.later b8)
          clear b8 A7 C7 a0 a1 a2 a3 a4 a5 k0 k1 k2 k3 k4 k5
          go_wp2_with fail
          refine (al.out _).mono ?_
          rintro e w9 ⟨rfl, b9⟩
          have B := Lib.hid (A8.out.later b9).below
          clear b9 A8
          go_wp2_with fail
          go_ret
          exact ⟨rfl, B.out⟩

end Go.Proofs.Ytmandeohbiagfaa.Page

namespace Go.Proofs.Ytmandeohbiagfaa.pageReads
open Go.ChangeShapes Go.WideShapes Go.ChangeAt Go.RowKit
open Go.ChangeMaps (open_string shut_string)

theorem own : ownKnob Try.prog.godebug = none := by kernel_rfl
theorem laidOut : laidOutB Try.prog = true := by kernel_rfl

set_option maxRecDepth 100000 in
theorem lifted (os : Os) (started : os.Started) (H : Type) (enc : TypeId × Value → H) :
    ReturnsInHanded {} Try.checked os 4 .any (Rows.pageReadsSpec.pre6 enc Try.prog Try.f4 Rows.pageReadsRow.domain false) (Rows.pageReadsSpec.post enc Try.prog Try.f4 false true false false) := by
  refine returnsInHanded_of_change_sized (C := Try.checked) own started (by kernel_rfl) Try.func4
    (ChangeSpec.witness6 (enc := enc) (C := Try.checked) false ⟨#[], #[.string ByteArray.empty, .string ByteArray.empty, .string ByteArray.empty, .slice none 0 0], []⟩ 8 (by kernel_rfl) (by kernel_rfl) (by kernel_rfl) (by kernel_rfl)) ?_
  intro W base args ds gs before hval0 hW hcnd hsz0 _
  have hsz : (DataW.weightsEach Try.prog (Try.f4.params.toList ++ Rows.pageReadsSpec.plain.varTypes Try.prog) (ds ++ gs)).all (· ≤ reachBytes) = true := hsz0
  have hval : ∀ (j : Nat) t v, Try.f4.params[j]? = some t → args[j]? = some v → Value.okWide Try.prog W .any base t v := hval0
  have hW' := hW
  obtain ⟨p, q, hA0, hV, rfl, hfz, hnd⟩ := hW
  have hA : DataW.TrodAll enc Try.prog W 0 (fun _ => true) true Try.f4.params.toList args.toList ds p := hA0
  have hlt := DataW.TrodAll.lt hA0
  rw [Try.params4] at hA hval hsz
  obtain ⟨v0, vs0, d0, ds0, p0, q0, hargs, rfl, rfl, h0, r0⟩ := trodAll_cons hA
  obtain ⟨v1, vs1, d1, ds1, p1, q1, rfl, rfl, rfl, h1, r1⟩ := trodAll_cons r0
  obtain ⟨v2, vs2, d2, ds2, p2, q2, rfl, rfl, rfl, h2, r2⟩ := trodAll_cons r1
  obtain ⟨v3, vs3, d3, ds3, p3, q3, rfl, rfl, rfl, h3, r3⟩ := trodAll_cons r2
  obtain ⟨rfl, rfl, rfl⟩ := trodAll_nil r3
  obtain rfl : args = #[v0, v1, v2, v3] := by cases args; simp_all
  obtain ⟨rfl, rfl⟩ := trodVars_none hV
  obtain ⟨a0, rfl, rfl, rfl, w0⟩ := open_string Try.underlying9 (hval 0 9 v0 rfl rfl) h0
  have z0 : a0.size ≤ 140737488351232 := by
    have h := sized_string hsz (j := 0) (t := 9) rfl rfl
    simp only [reachBytes] at h
    rw [Lib.size_eq]; exact h
  obtain ⟨a1, rfl, rfl, rfl, w1⟩ := open_string Try.underlying9 (hval 1 9 v1 rfl rfl) h1
  have z1 : a1.size ≤ 140737488351232 := by
    have h := sized_string hsz (j := 1) (t := 9) rfl rfl
    simp only [reachBytes] at h
    rw [Lib.size_eq]; exact h
  obtain ⟨a2, rfl, rfl, rfl, w2⟩ := open_string Try.underlying9 (hval 2 9 v2 rfl rfl) h2
  have z2 : a2.size ≤ 140737488351232 := by
    have h := sized_string hsz (j := 2) (t := 9) rfl rfl
    simp only [reachBytes] at h
    rw [Lib.size_eq]; exact h
  have z3 : ∀ n ∈ d3.weights Try.prog 36, n ≤ 140737488351232 := fun n hn => by
    have := List.all_eq_true.1 hsz _ (DataW.weights_mem_each (j := 3) rfl rfl n hn)
    exact of_decide_eq_true this
  obtain ⟨l3, hc3, hl3⟩ := Page.bools_arg (hval 3 36 v3 rfl rfl) h3 z3
  clear hA0 hval0
  simp only [List.append_nil] at hW' hlt
  refine (Page.preads_walk (by omega) (by omega) (by omega) hc3 hl3.1 hl3.2).mono fun e W' ⟨he, hg⟩ => ?_
  subst he
  exact ⟨_, rfl, _, _, _, [], _, [], hW', (trodAll_cons_mk (shut_bool Try.underlying4 _) trodAll_mk0), (trodAll_cons_mk (shut_string Try.underlying9 w0) (trodAll_cons_mk (shut_string Try.underlying9 w1) (trodAll_cons_mk (shut_string Try.underlying9 w2) (trodAll_cons_mk (Below.trod laidOut (by kernel_rfl) (of_decide_eq_true (by kernel_rfl)) h3 hg (fun x hx => hlt x (by simp [hx]))) trodAll_mk0)))), rfl, hg.frame _, fun h => by cases h⟩

theorem over : Rows.pageReadsRow.holds Try.pinned (OpenSpec.ofChange Rows.pageReadsSpec) :=
  OpenClaim.holds_of_wide 4 Try.f4 rfl rfl rfl rfl rfl rfl rfl ⟨rfl, rfl, rfl, rfl, rfl⟩ rfl rfl rfl rfl rfl (by kernel_rfl) Try.func4 (by kernel_rfl)
    (of_decide_eq_true (by kernel_rfl)) (by unfold Func.isWrapper; first | (rw [if_pos (by decide +kernel)]; kernel_rfl) | (rw [if_neg (by decide +kernel)]; exact ⟨rfl, rfl⟩))
    (fun os started H enc _ => lifted os started H enc)

theorem proved : Rows.PageReadsSaid :=
  over
end Go.Proofs.Ytmandeohbiagfaa.pageReads
