/- Walks: both areas beside each other: does. -/
import Derived.Test.YtehfclgngkhcpaaRW9
import Derived.Test.YtehfclgngkhcpaaSKW
namespace Go.Proofs.Ytehfclgngkhcpaa.Slot
open Go.RowKit
attribute [local go_sem ↓] Go.wp_at_zero Go.wp_at_succ

/-- the program's area and the document's, both this one; both were made since W0; no block is both's -/
structure Two (W0 w : World) (p g c q : Nat) (F : Nat → Prop) (a b : A) : Prop where
  st : St W0 w p g c a
  rf : Rf w q b F
  okb : b.ok
  own : ∀ x, F x → W0.heap.size ≤ x
  dis : ∀ x, F x → ¬ both p g x
theorem Two.op {W0 w w' : World} {p g c q : Nat} {F : Nat → Prop} {a b a' : A} (h : Two W0 w p g c q F a b) (k : Area w' p g c a' ∧ Touch (both p g) w w') : Two W0 w' p g c q F a' b :=
  ⟨h.st.op k, h.rf.touch k.2 h.dis, h.okb, h.own, h.dis⟩
theorem Two.qp {W0 w w' : World} {p g c q : Nat} {F : Nat → Prop} {a b b' : A} (h : Two W0 w p g c q F a b) (k : QP w q F b' w') (hk : b'.ok) : ∃ F', Two W0 w' p g c q F' a b' := by
  have hb := h.st.area.below
  refine ⟨grew F w w', ⟨⟨h.st.area.touch k.2 fun x hx hf => h.dis x hf hx, h.st.below.trans (k.2.below h.st.below.size h.own), h.st.own⟩, k.1, hk, ?_, ?_⟩⟩
  · rintro x (hx | hx)
    · exact h.own x hx
    · exact Nat.le_trans h.st.below.size hx.1
  · rintro x (hx | hx)
    · exact h.dis x hx
    · exact fun hh => by have := hb x hh; omega
theorem Two.later {W0 w w' : World} {p g c q : Nat} {F : Nat → Prop} {a b : A} (h : Two W0 w p g c q F a b) (t : Below w.heap.size w w') : Two W0 w' p g c q F a b :=
  ⟨h.st.later t, h.rf.later t, h.okb, h.own, h.dis⟩

/-- what a call does to an area -/
def opA (a : A) (o : Nat) (i : Int) (t : List UInt8) : A := if o = 3 ∨ o = 4 then setA a i t else if o = 5 then remA a i else if o = 6 then a.compact else putA a i t
theorem opA_ok {a : A} (h : a.ok) (o : Nat) (i : Int) (t : List UInt8) : (opA a o i t).ok := by
  unfold opA
  split
  · exact setA_ok h i t
  · split
    · exact remA_ok h i
    · split
      · exact compact_ok h
      · exact putA_ok h i t

/-- behind 'does' -/
structure DoesP (W0 : World) (p g c q : Nat) (a : A) (z : Bool) (w' : World) : Prop where
  yes : z = true
  ex : ∃ F, Two W0 w' p g c q F a a

section
variable {W0 w : World} {p g c q : Nat} {a : A} {F : Nat → Prop}
set_option maxRecDepth 100000 in
set_option maxHeartbeats 8000000 in
theorem does_any (h : Two W0 w p g c q F a a) (O K : Int) (T : ByteArray) (ho : 0 ≤ O ∧ O ≤ 255) (o : Nat) (hO : O % 8 = (o : Int)) (ht : T.size ≤ 281474976710656) :
    Calls Try.prog 30 #[.pointer (some ⟨p, 0, none⟩), .pointer (some ⟨q, 0, none⟩), .agg #[.int .u8 O, .int .i64 K, .string T]] w fun e w' => e = .returned (.bool true) ∧ ∃ F', Two W0 w' p g c q F' (opA a o K T.data.toList) (opA a o K T.data.toList) := by
  have hk := h.okb
  have ho8 : o < 8 := by omega
  obtain ⟨W, hW⟩ : ∃ W, W = w.alloc (.cells #[.int .u8 O, .int .i64 K, .string T] 56) := ⟨_, rfl⟩
  have ba : Below w.heap.size w W := by rw [hW]; exact (Below.refl _ _).alloc (Nat.le_refl _) _
  have rn : CRow w.heap.size O K T W := ⟨by rw [hW]; exact heap_alloc_new _ _⟩
  have h1 := h.later ba
  have hnp : ¬ both p g w.heap.size := fun hh => by have := h.st.area.below _ hh; omega
  have hnf : ¬ F w.heap.size := fun hh => by have := h.rf.below _ hh; omega
  have g0 := rn.g0
  have g1 := rn.g1
  have g2 := rn.g2
  have HW := Lib.hid hW
  have RN := Lib.hid rn
  have H1 := Lib.hid h1
  have HK := Lib.hid hk
  have SS := Lib.hid (set_is (h1.later ((Below.refl _ _).drew)).st.area K T ht)
  have SQ := Lib.hid (fun (W' : World) (hr : Rf W' q a F) => qset_is hk hr K T ht)
  have RS := Lib.hid (remove_is (h1.later ((Below.refl _ _).drew)).st.area K)
  have RQ := Lib.hid (fun (W' : World) (hr : Rf W' q a F) => qremove_is hk hr K)
  have PS := Lib.hid (put_is (h1.later ((Below.refl _ _).drew)).st.area K T ht)
  have PQ := Lib.hid (fun (W' : World) (hr : Rf W' q a F) => qput_is hk hr K T ht)
  have CS := Lib.hid (compact_any h1.st.area)
  have CQ := Lib.hid (fun (W' : World) (hr : Rf W' q a F) => qcompact_any hk hr)
  have hcs : (o = 3 ∨ o = 4) ∨ o = 5 ∨ o = 6 ∨ (o ≠ 3 ∧ o ≠ 4 ∧ o ≠ 5 ∧ o ≠ 6) := by omega
  clear hW ba rn h1 hk h ho8 ht
  rcases hcs with hq1 | rfl | rfl | ⟨h3, h4, h5, h6⟩
  · have eo : opA a o K T.data.toList = setA a K T.data.toList := if_pos hq1
    rw [eo]
    clear eo
    rcases hq1 with rfl | rfl
    all_goals
      go_enter Try.func30, Try.ntmps30
      go_wp2_with (rw [← HW.out])
      go_region_held3 (fun w' => w'.cell? ⟨w.heap.size, 1, none⟩ = some (.int .i64 K) ∧ w'.cell? ⟨w.heap.size, 2, none⟩ = some (.string T))
        (first | exact ⟨(RN.out.later ((Below.refl _ _).drew)).g1, (RN.out.later ((Below.refl _ _).drew)).g2⟩ | exact ⟨((RN.out.later ((Below.refl _ _).drew)).touch hs.2 hnp).g1, ((RN.out.later ((Below.refl _ _).drew)).touch hs.2 hnp).g2⟩ | exact ⟨(((RN.out.later ((Below.refl _ _).drew)).touch hs.2 hnp).touch hq.2 hnf).g1, (((RN.out.later ((Below.refl _ _).drew)).touch hs.2 hnp).touch hq.2 hnf).g2⟩)
        (first | (go_at_call 33; refine Calls.mono SS.out ?_; rintro e w2 ⟨rfl, hs⟩) | (go_at_call 68; refine Calls.mono (SQ.out _ (((H1.out.later ((Below.refl _ _).drew)).rf.touch hs.2 H1.out.dis))) ?_; rintro e w3 ⟨rfl, hq⟩))
      have HE := Lib.hid (((H1.out.later ((Below.refl _ _).drew)).op hs).qp hq (setA_ok HK.out K T.data.toList))
      clear hs hq
      go_wp2_with fail
      go_ret
      exact ⟨rfl, HE.out⟩
  · have eo : opA a 5 K T.data.toList = remA a K := rfl
    rw [eo]
    clear eo
    all_goals
      go_enter Try.func30, Try.ntmps30
      go_wp2_with (rw [← HW.out])
      go_region_held3 (fun w' => w'.cell? ⟨w.heap.size, 1, none⟩ = some (.int .i64 K) ∧ w'.cell? ⟨w.heap.size, 2, none⟩ = some (.string T))
        (first | exact ⟨(RN.out.later ((Below.refl _ _).drew)).g1, (RN.out.later ((Below.refl _ _).drew)).g2⟩ | exact ⟨((RN.out.later ((Below.refl _ _).drew)).touch hs.2 hnp).g1, ((RN.out.later ((Below.refl _ _).drew)).touch hs.2 hnp).g2⟩ | exact ⟨(((RN.out.later ((Below.refl _ _).drew)).touch hs.2 hnp).touch hq.2 hnf).g1, (((RN.out.later ((Below.refl _ _).drew)).touch hs.2 hnp).touch hq.2 hnf).g2⟩)
        (first | (go_at_call 34; refine Calls.mono RS.out ?_; rintro e w2 ⟨rfl, hs⟩) | (go_at_call 69; refine Calls.mono (RQ.out _ (((H1.out.later ((Below.refl _ _).drew)).rf.touch hs.2 H1.out.dis))) ?_; rintro e w3 ⟨rfl, hq⟩))
      have HE := Lib.hid (((H1.out.later ((Below.refl _ _).drew)).op hs).qp hq (remA_ok HK.out K))
      clear hs hq
      go_wp2_with fail
      go_ret
      exact ⟨rfl, HE.out⟩
  · have eo : opA a 6 K T.data.toList = a.compact := rfl
    rw [eo]
    clear eo
    go_enter Try.func30, Try.ntmps30
    go_wp2_with (rw [← HW.out])
    refine CS.out.mono ?_
    rintro e w2 ⟨rfl, hs⟩
    have CQ2 := Lib.hid (CQ.out w2 (H1.out.rf.touch hs.2 H1.out.dis))
    have H2 := Lib.hid (H1.out.op hs)
    clear hs
    go_wp2_with fail
    refine CQ2.out.mono ?_
    rintro e w3 ⟨rfl, hq⟩
    have HE := Lib.hid (H2.out.qp (QP.of hq) (compact_ok HK.out))
    clear hq
    go_wp2_with fail
    go_ret
    exact ⟨rfl, HE.out⟩
  · have eo : opA a o K T.data.toList = putA a K T.data.toList := by
      unfold opA
      rw [if_neg (by omega), if_neg h5, if_neg h6]
    rw [eo]
    clear eo
    have en3 : ((o : Int) == 3) = false := by simp; omega
    have en4 : ((o : Int) == 4) = false := by simp; omega
    have en5 : ((o : Int) == 5) = false := by simp; omega
    have en6 : ((o : Int) == 6) = false := by simp; omega
    clear h3 h4 h5 h6
    all_goals
      go_enter Try.func30, Try.ntmps30
      go_wp2_with (rw [← HW.out])
      go_region_held3 (fun w' => w'.cell? ⟨w.heap.size, 1, none⟩ = some (.int .i64 K) ∧ w'.cell? ⟨w.heap.size, 2, none⟩ = some (.string T))
        (first | exact ⟨(RN.out.later ((Below.refl _ _).drew)).g1, (RN.out.later ((Below.refl _ _).drew)).g2⟩ | exact ⟨((RN.out.later ((Below.refl _ _).drew)).touch hs.2 hnp).g1, ((RN.out.later ((Below.refl _ _).drew)).touch hs.2 hnp).g2⟩ | exact ⟨(((RN.out.later ((Below.refl _ _).drew)).touch hs.2 hnp).touch hq.2 hnf).g1, (((RN.out.later ((Below.refl _ _).drew)).touch hs.2 hnp).touch hq.2 hnf).g2⟩)
        (first | (go_at_call 36; refine Calls.mono PS.out ?_; rintro e w2 ⟨rfl, hs⟩) | (go_at_call 71; refine Calls.mono (PQ.out _ (((H1.out.later ((Below.refl _ _).drew)).rf.touch hs.2 H1.out.dis))) ?_; rintro e w3 ⟨rfl, hq⟩))
      have HE := Lib.hid (((H1.out.later ((Below.refl _ _).drew)).op hs).qp hq (putA_ok HK.out K T.data.toList))
      clear hs hq
      go_wp2_with fail
      go_ret
      exact ⟨rfl, HE.out⟩
end

end Go.Proofs.Ytehfclgngkhcpaa.Slot
