/- Walks: the document's Encode. -/
import Derived.Test.YtfcibccipkokoaaZC4
import Derived.Test.YtfcibccipkokoaaU6
namespace Go.Proofs.Ytfcibccipkokoaa.Mas
open Go.RowKit
attribute [local go_sem ↓] Go.wp_at_zero Go.wp_at_succ

theorem zeros_snoc (n : Nat) : zerosL (n + 1) = zerosL n ++ [0] := by unfold zerosL; rw [List.replicate_succ']
/-- what stands ahead of the zeros -/
def preL (m : Ms) : List UInt8 := headL m ++ (if m.clean then [1] else [])
theorem preL_len (m : Ms) : (preL m).length = if m.clean then 34 else 33 := by
  unfold preL
  rw [List.length_append, headL_len]
  cases m.clean <;> rfl
theorem preL_all (m : Ms) : preL m ++ zerosL (124 - (preL m).length) = bodyL m := by
  have h := preL_len m
  unfold bodyL
  cases hc : m.clean with
  | true =>
    rw [hc] at h
    rw [h]
    unfold preL
    rw [hc]
    rfl
  | false =>
    rw [hc] at h
    rw [h]
    unfold preL
    rw [hc]
    show headL m ++ [] ++ zerosL 91 = headL m ++ [0] ++ zerosL 90
    rw [List.append_nil, List.append_assoc]
    rfl
def headB (m : Ms) : ByteArray := ⟨#[1]⟩ ++ Rec.nb 8 m.count ++ Rec.nb 8 m.life ++ Rec.nb 8 m.check ++ Rec.nb 8 m.first
theorem ext_list {a : ByteArray} {l : List UInt8} (h : a.data.toList = l) : a = ⟨l.toArray⟩ := by
  apply ByteArray.ext
  apply Array.toList_inj.1
  exact h
theorem headB_list (m : Ms) : (headB m).data.toList = headL m := by
  unfold headB headL
  simp only [Rec.app_list, Rec.nb_list]
theorem headB_size (m : Ms) : (headB m).size = 33 := by
  show (headB m).data.toList.length = 33
  rw [headB_list, headL_len]

set_option maxRecDepth 100000 in
set_option maxHeartbeats 4000000 in
theorem rencode_no (m : Ms) (w : World) (hm : okM m = false) :
    Calls Try.prog 16 #[msV m] w fun e w' => e = .returned (.string ⟨#[]⟩) ∧ Below w.heap.size w w' := by
  have T0 := Lib.hid (Mb.new m (Below.refl w.heap.size w))
  have KM := Lib.hid (fun W => rmay_any m W)
  rw [hm] at KM
  obtain ⟨a0, a1, a2, a3, a4⟩ := T0.out.five
  clear hm
  unfold msV msC at *
  go_enter Try.func16, Try.ntmps16
  go_wp2_with fail
  refine (KM.out _).mono ?_
  rintro e w1 ⟨rfl, b1⟩
  have T1 := Lib.hid (T0.out.later b1).below
  clear b1 T0 KM a0 a1 a2 a3 a4
  go_wp2_with fail
  go_ret
  exact ⟨rfl, T1.out⟩

set_option maxRecDepth 100000 in
set_option maxHeartbeats 4000000 in
theorem rencode_yes (m : Ms) (w : World) (hm : okM m = true) (hw : m.wf) :
    Calls Try.prog 16 #[msV m] w fun e w' => e = .returned (.string ⟨(secL m).toArray⟩) ∧ Below w.heap.size w w' := by
  have T0 := Lib.hid (Mb.new m (Below.refl w.heap.size w))
  have KM := Lib.hid (fun W => rmay_any m W)
  rw [hm] at KM
  have K1 := Lib.hid (fun W => rput_at m.count W hw.count)
  have K2 := Lib.hid (fun W => rput_at m.life W hw.life)
  have K3 := Lib.hid (fun W => rput_at m.check W hw.check)
  have K4 := Lib.hid (fun W => rput_at m.first W hw.first)
  have KS := Lib.hid (fun W => show Calls Try.prog 41 #[.string ⟨(bodyL m).toArray⟩] W fun e w' => e = .returned (.string ⟨(secL m).toArray⟩) ∧ Below W.heap.size W w' from Sum.rseal_any ⟨(bodyL m).toArray⟩ W (by show (bodyL m).toArray.size ≤ _; rw [List.size_toArray, bodyL_len]; omega))
  obtain ⟨a0, a1, a2, a3, a4⟩ := T0.out.five
  have z1 : (⟨#[1]⟩ : ByteArray).size = 1 := rfl
  have z2 := Rec.nb_size 8 m.count
  have z3 := Rec.nb_size 8 m.life
  have z4 := Rec.nb_size 8 m.check
  have z5 := Rec.nb_size 8 m.first
  have eH : headB m = ⟨#[1]⟩ ++ Rec.nb 8 m.count ++ Rec.nb 8 m.life ++ Rec.nb 8 m.check ++ Rec.nb 8 m.first := rfl
  have PL := Lib.hid (show (headB m).data.toList ++ (if m.clean then [1] else []) = preL m from by rw [headB_list]; rfl)
  have PA := Lib.hid (preL_all m)
  have PN := Lib.hid (preL_len m)
  have HN := Lib.hid (headB_size m)
  clear hm hw
  unfold msV
  generalize hC : msC m = C at *
  unfold msC at hC
  subst hC
  generalize Rec.nb 8 m.count = A1 at *
  generalize Rec.nb 8 m.life = A2 at *
  generalize Rec.nb 8 m.check = A3 at *
  generalize Rec.nb 8 m.first = A4 at *
  have s1 : (9223372036854775807 < 1 + A1.size) = False := by simp only [eq_iff_iff, iff_false]; omega
  have s2 : (9223372036854775807 < 1 + A1.size + A2.size) = False := by simp only [eq_iff_iff, iff_false]; omega
  have s3 : (9223372036854775807 < 1 + A1.size + A2.size + A3.size) = False := by simp only [eq_iff_iff, iff_false]; omega
  have s4 : (9223372036854775807 < 1 + A1.size + A2.size + A3.size + A4.size) = False := by simp only [eq_iff_iff, iff_false]; omega
  have EH := Lib.hid eH
  clear eH z1 z2 z3 z4 z5
  go_enter Try.func16, Try.ntmps16
  go_wp2_with fail
  refine (KM.out _).mono ?_
  rintro e w1 ⟨rfl, b1⟩
  have T1 := Lib.hid ((T0.out.later b1).later ((Below.refl _ _).drew))
  clear b1 T0 KM a0 a1 a2 a3 a4
  obtain ⟨g, hg⟩ : ∃ g, g = w.heap.size := ⟨_, rfl⟩
  rw [← hg] at T1
  have HG := Lib.hid hg
  go_wp2_with fail
  rw [← hg]
  clear hg
  go_region_held3 (fun w' => w'.cell? ⟨g, 0, none⟩ = some (.int .u64 (m.count : Int)) ∧ w'.cell? ⟨g, 1, none⟩ = some (.int .u64 (m.life : Int)) ∧ w'.cell? ⟨g, 2, none⟩ = some (.int .u64 (m.check : Int)) ∧ w'.cell? ⟨g, 3, none⟩ = some (.int .u64 (m.first : Int)) ∧ w'.cell? ⟨g, 4, none⟩ = some (.bool m.clean)) (first | exact T1.out.five | exact T2.five | exact T3.five | exact T4.five | exact T5.five)
    (first
      | (go_at_call 40; (with_reducible refine (K1.out _).mono ?_); rintro e w2 ⟨rfl, b2⟩; have T2 := T1.out.later b2; clear b2)
      | (go_at_call 40; (with_reducible refine (K2.out _).mono ?_); rintro e w3 ⟨rfl, b2⟩; have T3 := T2.later b2; clear b2)
      | (go_at_call 40; (with_reducible refine (K3.out _).mono ?_); rintro e w4 ⟨rfl, b2⟩; have T4 := T3.later b2; clear b2)
      | (go_at_call 40; (with_reducible refine (K4.out _).mono ?_); rintro e w5 ⟨rfl, b2⟩; have T5 := T4.later b2; clear b2))
  have T6 := Lib.hid T5
  clear T1 T2 T3 T4 T5 K1 K2 K3 K4 s1 s2 s3 s4
  rw [← EH.out]
  clear EH
  generalize headB m = H at *
  obtain ⟨p, hp⟩ : ∃ p, p = preL m := ⟨_, rfl⟩
  rw [← hp] at PL PA PN
  clear hp
  generalize bodyL m = bod at *
  obtain ⟨q, hq⟩ : ∃ q, q = p.length := ⟨_, rfl⟩
  rw [← hq] at PA PN
  have s1 : (9223372036854775807 < H.size + 1) = False := by have := HN.out; simp only [eq_iff_iff, iff_false]; omega
  have LP : Hid (∀ S : ByteArray, S.data.toList = p → S.size = q) := Lib.hid (fun S hS => by rw [hq, ← hS]; rfl)
  clear hq
  have one_size : (⟨#[1]⟩ : ByteArray).data.toList = [1] := rfl
  cases hc : m.clean
  all_goals
    rw [hc] at PL PN
    have PL2 := PL.out
    simp only [if_true, if_false, Bool.false_eq_true, List.append_nil] at PL2
    have hq : q ≤ 34 := by have := PN.out; simp only [if_true, if_false, Bool.false_eq_true] at this; omega
    first
      | (have LS := Lib.hid (show (H ++ ⟨#[1]⟩ : ByteArray).data.toList = p from by rw [Rec.app_list]; exact PL2))
      | (have LS := Lib.hid PL2)
    clear PL2 PL PN one_size
    go_wp2_with fail
    have BW := Lib.hid T6.out.below
    clear T6 s1 HN HG
    go_loop [3] (fun x => ∃ (S : ByteArray) (n : Nat), x = .string S ∧ S.data.toList = p ++ zerosL n ∧ S.size = q + n ∧ q + n ≤ 124) (fun x => match x with | .string S => 124 - S.size | _ => 0)
    case atStart => exact ⟨_, 0, rfl, by rw [LS.out]; simp [zerosL], LP.out _ LS.out, by omega⟩
    case round =>
      obtain ⟨S, n, rfl, hS, hz, hn⟩ := hrel
      have HS := Lib.hid hS
      clear hS LS
      by_cases hlt : q + n < 124
      · have e1 : S.size < 124 := by omega
        have s1 : (9223372036854775807 < S.size + 1) = False := by simp only [eq_iff_iff, iff_false]; omega
        have HZ := Lib.hid hz
        clear hz
        go_wp2_with fail
        go_round
        case rel => exact ⟨_, n + 1, rfl, by rw [Rec.app_list, HS.out, zeros_snoc, List.append_assoc], by rw [ByteArray.size_append, HZ.out]; rfl, by omega⟩
        case measure =>
          simp only [ByteArray.size_append]
          have : (⟨#[0]⟩ : ByteArray).size = 1 := rfl
          omega
      · have e1 : decide ((S.size : Int) < 124) = false := decide_eq_false (by omega)
        have e2 : S = ⟨bod.toArray⟩ := ext_list (by rw [HS.out, ← PA.out, show 124 - q = n by omega])
        have k := KS.out
        rw [← e2] at k
        clear hz e2 KS
        go_wp2_with fail
        refine (k _).mono ?_
        rintro e w6 ⟨rfl, b6⟩
        have B7 := Lib.hid (BW.out.trans (b6.mono BW.out.size))
        clear b6 BW
        go_wp2_with fail
        go_ret
        exact ⟨rfl, B7.out⟩

theorem rencode_any (m : Ms) (w : World) (hw : m.wf) :
    Calls Try.prog 16 #[msV m] w fun e w' => e = .returned (.string (encB m)) ∧ Below w.heap.size w w' := by
  unfold encB
  cases hm : okM m with
  | true => rw [enc_yes hm]; exact rencode_yes m w hm hw
  | false => rw [enc_no hm]; exact rencode_no m w hm

end Go.Proofs.Ytfcibccipkokoaa.Mas
