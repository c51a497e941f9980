/-
  PageRoom holds for every input: a row has room just if it is not longer than is told. No condition besides those of the statement.
-/
import Derived.Test.YtmandeohbiagfaaRows
import Derived.WalkKit
import Derived.ProofKit
import Derived.OpenShut
import Derived.ShutString
import Derived.ChangeOld
import Derived.Below
import Derived.Carry
import Derived.SizedLaws
import Derived.Deep.DeepCutAuto
import Derived.Deep.RegionHeld3
import Derived.Deep.DrawnRows
import Derived.Test.YtmandeohbiagfaaZ7
namespace Go.Proofs.Ytmandeohbiagfaa.Page
open Go.RowKit Slot
attribute [local go_sem ↓] Go.wp_at_zero Go.wp_at_succ

/-- the page with a further row -/
def Pg.more (P : Pg) (s : ByteArray) : Pg := { P with rows := P.rows ++ [s] }
theorem used_more (l : List ByteArray) (s : ByteArray) : used (l ++ [s]) = used l + (4 + s.size) := by rw [used_app, used_cons, used_nil, Nat.add_zero]
theorem may_more {P : Pg} {s : ByteArray} (h : mayP P = true) : mayP (P.more s) = decide ((s.size : Int) ≤ roomI P.rows) := by
  unfold mayP at *
  have h1 := of_decide_eq_true h
  unfold Pg.more roomI
  simp only [used_more]
  rw [decide_eq_decide]
  split <;> omega
theorem room_more {P : Pg} {s : ByteArray} (_h : mayP P = true) (hs : (s.size : Int) ≤ roomI P.rows) : roomI (P.more s).rows = max (roomI P.rows - 4 - (s.size : Int)) (-1) := by
  unfold Pg.more roomI at *
  simp only [used_more]
  split at hs <;> split <;> omega

/-- a page in a box, with so many rows -/
structure BxS (w W : World) (h : Nat) (P : Pg) (n : Nat) : Prop where
  ex : ∃ ad c, Bx w W h P (.slice ad n c)

set_option maxRecDepth 100000 in
set_option maxHeartbeats 4000000 in
theorem proom_walk {w : World} {P : Pg} {u : Value} {k : Int} (hp : InPg w P u) (hk : 0 ≤ k ∧ k ≤ 65535) : Calls Try.prog 7 #[pgV P u, .int .u16 k] w fun e w' => e = .returned (.bool true) ∧ Below w.heap.size w w' := by
  have T0 := Lib.hid (Bx.make hp.rows (Below.refl w.heap.size w))
  obtain ⟨ad, c, rfl, _⟩ := id hp.rows
  have HV := Lib.hid (fun (W : World) (g : Nat) (t : Bx w W g P (.slice ad P.rows.length c)) => heavy_any P t.rows hp.len hp.each)
  have PWF := Lib.hid hp.wf
  have NIL := Lib.hid hp.nil
  have RW := Lib.hid hp.rows
  clear hp
  obtain ⟨n, hn⟩ : ∃ n, n = P.rows.length := ⟨_, rfl⟩
  have N := Lib.hid hn
  rw [← hn] at T0 HV NIL RW ⊢
  clear hn
  obtain ⟨m, hm, hm2⟩ : ∃ m : Nat, Int.tmod k 600 = (m : Int) ∧ m < 600 := ⟨(Int.tmod k 600).toNat, by rw [Int.tmod_eq_emod_of_nonneg hk.1]; omega, by rw [Int.tmod_eq_emod_of_nonneg hk.1]; omega⟩
  unfold pgV pgC at *
  obtain ⟨a0, a1, a2, a3, a4, a5⟩ := T0.out.six
  go_enter Try.func7, Try.ntmps7
  go_wp2_with fail
  obtain ⟨g, hg⟩ : ∃ g, g = w.heap.size := ⟨_, rfl⟩
  clear a0 a1 a2 a3 a4 a5
  rw [← hg] at T0 ⊢
  refine (HV.out _ _ T0.out).mono ?_
  rintro e w1 ⟨rfl, b1⟩
  have T1 := Lib.hid (T0.out.later b1)
  clear b1 T0 hg
  cases hb : heavyB P.rows with
  | true =>
    clear HV hb
    go_wp2_with fail
    refine (alive_any w1).mono ?_
    rintro e w2 ⟨rfl, b2⟩
    have E := Lib.hid (T1.out.later b2).below
    clear b2 T1
    go_wp2_with fail
    go_ret
    exact ⟨rfl, E.out⟩
  | false =>
    have L1 := Lib.hid (light hb)
    have K12 := Lib.hid (fun (W : World) (t : Bx w W g P (.slice ad n c)) => may_any P t.rows (by have := L1.out.1; omega))
    have K14 := Lib.hid (fun (W : World) (t : Bx w W g P (.slice ad n c)) => room_any P t.rows (by have := L1.out.1; omega))
    unfold pgV at K12 K14
    obtain ⟨a0, a1, a2, a3, a4, a5⟩ := T1.out.six
    clear hb HV
    go_wp2_with fail
    refine (K12.out _ T1.out).mono ?_
    rintro e w2 ⟨rfl, b2⟩
    have T2 := Lib.hid (T1.out.later b2)
    clear b2 T1 a0 a1 a2 a3 a4 a5 K12
    cases hb : mayP P with
    | false =>
      clear hb
      go_wp2_with fail
      refine (alive_any w2).mono ?_
      rintro e w3 ⟨rfl, b2⟩
      have E := Lib.hid (T2.out.later b2).below
      clear b2 T2
      go_wp2_with fail
      go_ret
      exact ⟨rfl, E.out⟩
    | true =>
      have MAY := Lib.hid hb
      obtain ⟨a0, a1, a2, a3, a4, a5⟩ := T2.out.six
      clear hb
      go_wp2_with fail
      refine (K14.out _ T2.out).mono ?_
      rintro e w3 ⟨rfl, b2⟩
      have T3 := Lib.hid (T2.out.later b2)
      clear b2 T2 a0 a1 a2 a3 a4 a5 K14
      obtain ⟨a0, a1, a2, a3, a4, a5⟩ := T3.out.six
      go_upto_region 6 with fail
      go_cut [] (fun wx => BxS w wx w3.heap.size (P.more (zerosB m)) (n + 1))
      case first =>
        have H5 : Hid (Bx w (w3.alloc (.cells #[.int .u8 (P.kind : Int), .int .u8 (P.level : Int), .int .u32 (P.id : Int), .int .u64 (P.lsn : Int), .int .u32 (P.next : Int), .slice ad n c] 26)) w3.heap.size P (.slice ad n c)) := Lib.hid (Bx.make T3.out.rows T3.out.below)
        have T5 : Hid (Bx w (w3.alloc (.cells #[.int .u8 (P.kind : Int), .int .u8 (P.level : Int), .int .u32 (P.id : Int), .int .u64 (P.lsn : Int), .int .u32 (P.next : Int), .slice ad n c] 26)) g P (.slice ad n c)) := Lib.hid (T3.out.later ((Below.refl _ _).alloc (Nat.le_refl _) _))
        have HNE := Lib.hid (show g ≠ w3.heap.size from fun e => by have := old_lt T3.out.box; omega)
        have HLW := Lib.hid T3.out.below.size
        have HLT := Lib.hid (show w3.heap.size < (w3.alloc (.cells #[.int .u8 (P.kind : Int), .int .u8 (P.level : Int), .int .u32 (P.id : Int), .int .u64 (P.lsn : Int), .int .u32 (P.next : Int), .slice ad n c] 26)).heap.size by simp)
        have LEN := Lib.hid (show ([] : List ByteArray).length + P.rows.length ≤ 1000000 by have := L1.out.2; simp; omega)
        have LEN2 := Lib.hid (show P.rows.length + [zerosB m].length ≤ 1000000 by have := L1.out.2; simp; omega)
        have LEN3 := Lib.hid (show (P.rows ++ [zerosB m]).length = n + 1 by rw [List.length_append, ← N.out]; rfl)
        clear T3 a0 a1 a2 a3 a4 a5
        generalize w3.alloc (.cells #[.int .u8 (P.kind : Int), .int .u8 (P.level : Int), .int .u32 (P.id : Int), .int .u64 (P.lsn : Int), .int .u32 (P.next : Int), .slice ad n c] 26) = V at *
        have ROWS := Lib.hid (fun W (b : Below V.heap.size V W) => T5.out.rows.later b)
        have SC := Lib.hid (fun W (b : Below V.heap.size V W) => (T5.out.later b).cell5)
        have c00 : Ck V V.drew m (zerosB m) none none none := Ck.start
        have M6 : m ≤ 1000000 := by omega
        clear N L1 MAY PWF
        refine wp_region_noPanic ?_
        refine wp_region_held_drew (S := fun w' => w'.cell? ⟨g, 5, none⟩ = some (.slice ad n c)) (by kernel_rfl) (SC.out _ c00.below) (fun hHeld => ?_)
        refine wpAnyH_take (i := 1) (v := .pointer (some ⟨g, 5, none⟩)) rfl (by kernel_rfl) (by kernel_rfl) (by kernel_rfl) (fun _ _ _ h => h) (Or.inl ⟨by rfl, by intro w hw; go_simp⟩) hHeld ?_
        refine wpAnyH_take (i := 2) (v := .slice ad n c) rfl (by kernel_rfl) (by kernel_rfl) (by kernel_rfl) (fun _ _ _ h => h) (Or.inl ⟨by rfl, by intro w hw; go_simp⟩) hHeld ?_
        refine wpAnyH_take (i := 4) (v := .int .i64 (m : Int)) rfl (by kernel_rfl) (by kernel_rfl) (by kernel_rfl) (fun _ _ _ h => h) (Or.inl ⟨by rfl, by intro w hw; go_simp⟩) hHeld ?_
        clear hHeld
        simp only [List.getElem_toArray, List.getElem_cons_succ, List.getElem_cons_zero, Act.put, List.setIfInBounds_toArray, List.set_cons_zero, List.set_cons_succ]
        refine wpAnyH_ready (rs := [0, 5]) (by kernel_rfl) (by simp) (AllReadyH.cons rfl (fun K hK => ?_) (AllReadyH.cons rfl (fun K hK => ?_) AllReadyH.nil))
        · refine step_cA (V := V) (some 22) (by rfl) (by rfl) (by rfl) c00 ?_; intro x0 W10 c10; refine hK.out _ _ (SC.out _ c10.below) (fun _ => ?_); clear hK K; simp only [Act.put, List.setIfInBounds_toArray, List.set_cons_zero, List.set_cons_succ]
          refine wpAnyH_ready (rs := [3, 5]) (by kernel_rfl) (by simp) (AllReadyH.cons rfl (fun K hK => ?_) (AllReadyH.cons rfl (fun K hK => ?_) AllReadyH.nil))
          · refine step_cP (V := V) (m := m) (some 25) (by rfl) (by rfl) _ _ (by rfl) (by rfl) (by rfl) c10 ROWS.out NIL.out LEN.out ?_; intro v3 W20 c20; refine hK.out _ _ (SC.out _ c20.below) (fun _ => ?_); clear hK K; simp only [Act.put, List.setIfInBounds_toArray, List.set_cons_zero, List.set_cons_succ]
            refine wpAnyH_ready (rs := [5]) (by kernel_rfl) (by simp) (AllReadyH.cons rfl (fun K hK => ?_) AllReadyH.nil)
            · refine step_aM (V := V) (m := m) (some 27) (by rfl) (by rfl) _ _ (by rfl) M6 (by rfl) (by rfl) c20 ?_; intro x5 W21 c21; refine hK.out _ _ (SC.out _ c21.below) (fun _ => ?_); clear hK K; simp only [Act.put, List.setIfInBounds_toArray, List.set_cons_zero, List.set_cons_succ]
              refine wpAnyH_ready (rs := [6]) (by kernel_rfl) (by simp) (AllReadyH.cons rfl (fun K hK => ?_) AllReadyH.nil)
              · refine step_aV (V := V) (m := m) (some 28) (by rfl) (by rfl) _ (by rfl) (by rfl) c21 ?_; intro c22; refine hK.out _ _ (SC.out _ c22.below) (fun _ => ?_); clear hK K; simp only [Act.put, List.setIfInBounds_toArray, List.set_cons_zero, List.set_cons_succ]
                refine wpAnyH_ready (rs := [7]) (by kernel_rfl) (by simp) (AllReadyH.cons rfl (fun K hK => ?_) AllReadyH.nil)
                · refine step_aS (V := V) (m := m) (some 29) (by rfl) (by rfl) _ (by rfl) (by rfl) c22 ?_; intro x7 W23 c23; refine hK.out _ _ (SC.out _ c23.below) (fun _ => ?_); clear hK K; simp only [Act.put, List.setIfInBounds_toArray, List.set_cons_zero, List.set_cons_succ]
                  refine wpAnyH_ready (rs := [8]) (by kernel_rfl) (by simp) (AllReadyH.cons rfl (fun K hK => ?_) AllReadyH.nil)
                  · refine step_aP (V := V) (m := m) (some 30) (by rfl) (by rfl) _ _ (by rfl) (by rfl) (by rfl) c23 LEN2.out ?_; intro v8 W8 t8 b8; refine hK.out _ _ (SC.out _ b8) (fun _ => ?_); clear hK K; simp only [Act.put, List.setIfInBounds_toArray, List.set_cons_zero, List.set_cons_succ]
                    have HHELD := SC.out _ b8
                    have H8 := H5.out.later b8
                    have T8 := T5.out.later b8
                    have k8 := H8.cell5
                    have f8 := H8.free
                    have FH := Lib.hid (H8.put t8 HLT.out HLW.out)
                    obtain ⟨ad8, cp8, rfl⟩ := Tx.long t8 LEN3.out
                    have I9 := (T8.beside RW.out HNE.out HLW.out (.slice ad8 (n + 1) cp8)).cell5
                    clear H8 T8 t8 b8
                    refine wpAnyH_take (i := 9) (v := .pointer (some ⟨w3.heap.size, 5, none⟩)) rfl (by kernel_rfl) (by kernel_rfl) (by kernel_rfl) (fun _ _ _ h => h) (Or.inl ⟨by rfl, by intro w hw; go_simp⟩) HHELD ?_
                    simp only [List.getElem_toArray, List.getElem_cons_succ, List.getElem_cons_zero, Act.put, List.setIfInBounds_toArray, List.set_cons_zero, List.set_cons_succ]
                    refine wpAnyH_ready (rs := [10]) (by kernel_rfl) (by simp) (AllReadyH.cons rfl (fun K hK => ?_) AllReadyH.nil)
                    go_simp
                    refine hK.out _ _ I9 (fun _ => ?_)
                    clear hK K
                    refine wpAnyH_done (by kernel_rfl) ?_ _
                    refine NoPanic.normal ?_
                    go_wp2_with fail
                    go_meet
                    exact ⟨⟨_, _, FH.out⟩⟩
          · refine step_cM (V := V) (m := m) (some 27) (by rfl) (by rfl) _ _ (by rfl) M6 (by rfl) (by rfl) c10 ?_; intro x5 W11 c11; refine hK.out _ _ (SC.out _ c11.below) (fun _ => ?_); clear hK K; simp only [Act.put, List.setIfInBounds_toArray, List.set_cons_zero, List.set_cons_succ]
            refine wpAnyH_ready (rs := [3, 6]) (by kernel_rfl) (by simp) (AllReadyH.cons rfl (fun K hK => ?_) (AllReadyH.cons rfl (fun K hK => ?_) AllReadyH.nil))
            · refine step_cP (V := V) (m := m) (some 25) (by rfl) (by rfl) _ _ (by rfl) (by rfl) (by rfl) c11 ROWS.out NIL.out LEN.out ?_; intro v3 W21 c21; refine hK.out _ _ (SC.out _ c21.below) (fun _ => ?_); clear hK K; simp only [Act.put, List.setIfInBounds_toArray, List.set_cons_zero, List.set_cons_succ]
              refine wpAnyH_ready (rs := [6]) (by kernel_rfl) (by simp) (AllReadyH.cons rfl (fun K hK => ?_) AllReadyH.nil)
              · refine step_aV (V := V) (m := m) (some 28) (by rfl) (by rfl) _ (by rfl) (by rfl) c21 ?_; intro c22; refine hK.out _ _ (SC.out _ c22.below) (fun _ => ?_); clear hK K; simp only [Act.put, List.setIfInBounds_toArray, List.set_cons_zero, List.set_cons_succ]
                refine wpAnyH_ready (rs := [7]) (by kernel_rfl) (by simp) (AllReadyH.cons rfl (fun K hK => ?_) AllReadyH.nil)
                · refine step_aS (V := V) (m := m) (some 29) (by rfl) (by rfl) _ (by rfl) (by rfl) c22 ?_; intro x7 W23 c23; refine hK.out _ _ (SC.out _ c23.below) (fun _ => ?_); clear hK K; simp only [Act.put, List.setIfInBounds_toArray, List.set_cons_zero, List.set_cons_succ]
                  refine wpAnyH_ready (rs := [8]) (by kernel_rfl) (by simp) (AllReadyH.cons rfl (fun K hK => ?_) AllReadyH.nil)
                  · refine step_aP (V := V) (m := m) (some 30) (by rfl) (by rfl) _ _ (by rfl) (by rfl) (by rfl) c23 LEN2.out ?_; intro v8 W8 t8 b8; refine hK.out _ _ (SC.out _ b8) (fun _ => ?_); clear hK K; simp only [Act.put, List.setIfInBounds_toArray, List.set_cons_zero, List.set_cons_succ]
                    have HHELD := SC.out _ b8
                    have H8 := H5.out.later b8
                    have T8 := T5.out.later b8
                    have k8 := H8.cell5
                    have f8 := H8.free
                    have FH := Lib.hid (H8.put t8 HLT.out HLW.out)
                    obtain ⟨ad8, cp8, rfl⟩ := Tx.long t8 LEN3.out
                    have I9 := (T8.beside RW.out HNE.out HLW.out (.slice ad8 (n + 1) cp8)).cell5
                    clear H8 T8 t8 b8
                    refine wpAnyH_take (i := 9) (v := .pointer (some ⟨w3.heap.size, 5, none⟩)) rfl (by kernel_rfl) (by kernel_rfl) (by kernel_rfl) (fun _ _ _ h => h) (Or.inl ⟨by rfl, by intro w hw; go_simp⟩) HHELD ?_
                    simp only [List.getElem_toArray, List.getElem_cons_succ, List.getElem_cons_zero, Act.put, List.setIfInBounds_toArray, List.set_cons_zero, List.set_cons_succ]
                    refine wpAnyH_ready (rs := [10]) (by kernel_rfl) (by simp) (AllReadyH.cons rfl (fun K hK => ?_) AllReadyH.nil)
                    go_simp
                    refine hK.out _ _ I9 (fun _ => ?_)
                    clear hK K
                    refine wpAnyH_done (by kernel_rfl) ?_ _
                    refine NoPanic.normal ?_
                    go_wp2_with fail
                    go_meet
                    exact ⟨⟨_, _, FH.out⟩⟩
            · refine step_cV (V := V) (m := m) (some 28) (by rfl) (by rfl) _ (by rfl) (by rfl) c11 ?_; intro c12; refine hK.out _ _ (SC.out _ c12.below) (fun _ => ?_); clear hK K; simp only [Act.put, List.setIfInBounds_toArray, List.set_cons_zero, List.set_cons_succ]
              refine wpAnyH_ready (rs := [3, 7]) (by kernel_rfl) (by simp) (AllReadyH.cons rfl (fun K hK => ?_) (AllReadyH.cons rfl (fun K hK => ?_) AllReadyH.nil))
              · refine step_cP (V := V) (m := m) (some 25) (by rfl) (by rfl) _ _ (by rfl) (by rfl) (by rfl) c12 ROWS.out NIL.out LEN.out ?_; intro v3 W22 c22; refine hK.out _ _ (SC.out _ c22.below) (fun _ => ?_); clear hK K; simp only [Act.put, List.setIfInBounds_toArray, List.set_cons_zero, List.set_cons_succ]
                refine wpAnyH_ready (rs := [7]) (by kernel_rfl) (by simp) (AllReadyH.cons rfl (fun K hK => ?_) AllReadyH.nil)
                · refine step_aS (V := V) (m := m) (some 29) (by rfl) (by rfl) _ (by rfl) (by rfl) c22 ?_; intro x7 W23 c23; refine hK.out _ _ (SC.out _ c23.below) (fun _ => ?_); clear hK K; simp only [Act.put, List.setIfInBounds_toArray, List.set_cons_zero, List.set_cons_succ]
                  refine wpAnyH_ready (rs := [8]) (by kernel_rfl) (by simp) (AllReadyH.cons rfl (fun K hK => ?_) AllReadyH.nil)
                  · refine step_aP (V := V) (m := m) (some 30) (by rfl) (by rfl) _ _ (by rfl) (by rfl) (by rfl) c23 LEN2.out ?_; intro v8 W8 t8 b8; refine hK.out _ _ (SC.out _ b8) (fun _ => ?_); clear hK K; simp only [Act.put, List.setIfInBounds_toArray, List.set_cons_zero, List.set_cons_succ]
                    have HHELD := SC.out _ b8
                    have H8 := H5.out.later b8
                    have T8 := T5.out.later b8
                    have k8 := H8.cell5
                    have f8 := H8.free
                    have FH := Lib.hid (H8.put t8 HLT.out HLW.out)
                    obtain ⟨ad8, cp8, rfl⟩ := Tx.long t8 LEN3.out
                    have I9 := (T8.beside RW.out HNE.out HLW.out (.slice ad8 (n + 1) cp8)).cell5
                    clear H8 T8 t8 b8
                    refine wpAnyH_take (i := 9) (v := .pointer (some ⟨w3.heap.size, 5, none⟩)) rfl (by kernel_rfl) (by kernel_rfl) (by kernel_rfl) (fun _ _ _ h => h) (Or.inl ⟨by rfl, by intro w hw; go_simp⟩) HHELD ?_
                    simp only [List.getElem_toArray, List.getElem_cons_succ, List.getElem_cons_zero, Act.put, List.setIfInBounds_toArray, List.set_cons_zero, List.set_cons_succ]
                    refine wpAnyH_ready (rs := [10]) (by kernel_rfl) (by simp) (AllReadyH.cons rfl (fun K hK => ?_) AllReadyH.nil)
                    go_simp
                    refine hK.out _ _ I9 (fun _ => ?_)
                    clear hK K
                    refine wpAnyH_done (by kernel_rfl) ?_ _
                    refine NoPanic.normal ?_
                    go_wp2_with fail
                    go_meet
                    exact ⟨⟨_, _, FH.out⟩⟩
              · refine step_cS (V := V) (m := m) (some 29) (by rfl) (by rfl) _ (by rfl) (by rfl) c12 ?_; intro x7 W13 c13; refine hK.out _ _ (SC.out _ c13.below) (fun _ => ?_); clear hK K; simp only [Act.put, List.setIfInBounds_toArray, List.set_cons_zero, List.set_cons_succ]
                refine wpAnyH_ready (rs := [3]) (by kernel_rfl) (by simp) (AllReadyH.cons rfl (fun K hK => ?_) AllReadyH.nil)
                · refine step_cP (V := V) (m := m) (some 25) (by rfl) (by rfl) _ _ (by rfl) (by rfl) (by rfl) c13 ROWS.out NIL.out LEN.out ?_; intro v3 W23 c23; refine hK.out _ _ (SC.out _ c23.below) (fun _ => ?_); clear hK K; simp only [Act.put, List.setIfInBounds_toArray, List.set_cons_zero, List.set_cons_succ]
                  refine wpAnyH_ready (rs := [8]) (by kernel_rfl) (by simp) (AllReadyH.cons rfl (fun K hK => ?_) AllReadyH.nil)
                  · refine step_aP (V := V) (m := m) (some 30) (by rfl) (by rfl) _ _ (by rfl) (by rfl) (by rfl) c23 LEN2.out ?_; intro v8 W8 t8 b8; refine hK.out _ _ (SC.out _ b8) (fun _ => ?_); clear hK K; simp only [Act.put, List.setIfInBounds_toArray, List.set_cons_zero, List.set_cons_succ]
                    have HHELD := SC.out _ b8
                    have H8 := H5.out.later b8
                    have T8 := T5.out.later b8
                    have k8 := H8.cell5
                    have f8 := H8.free
                    have FH := Lib.hid (H8.put t8 HLT.out HLW.out)
                    obtain ⟨ad8, cp8, rfl⟩ := Tx.long t8 LEN3.out
                    have I9 := (T8.beside RW.out HNE.out HLW.out (.slice ad8 (n + 1) cp8)).cell5
                    clear H8 T8 t8 b8
                    refine wpAnyH_take (i := 9) (v := .pointer (some ⟨w3.heap.size, 5, none⟩)) rfl (by kernel_rfl) (by kernel_rfl) (by kernel_rfl) (fun _ _ _ h => h) (Or.inl ⟨by rfl, by intro w hw; go_simp⟩) HHELD ?_
                    simp only [List.getElem_toArray, List.getElem_cons_succ, List.getElem_cons_zero, Act.put, List.setIfInBounds_toArray, List.set_cons_zero, List.set_cons_succ]
                    refine wpAnyH_ready (rs := [10]) (by kernel_rfl) (by simp) (AllReadyH.cons rfl (fun K hK => ?_) AllReadyH.nil)
                    go_simp
                    refine hK.out _ _ I9 (fun _ => ?_)
                    clear hK K
                    refine wpAnyH_done (by kernel_rfl) ?_ _
                    refine NoPanic.normal ?_
                    go_wp2_with fail
                    go_meet
                    exact ⟨⟨_, _, FH.out⟩⟩
        · refine step_cM (V := V) (m := m) (some 27) (by rfl) (by rfl) _ _ (by rfl) M6 (by rfl) (by rfl) c00 ?_; intro x5 W01 c01; refine hK.out _ _ (SC.out _ c01.below) (fun _ => ?_); clear hK K; simp only [Act.put, List.setIfInBounds_toArray, List.set_cons_zero, List.set_cons_succ]
          refine wpAnyH_ready (rs := [0, 6]) (by kernel_rfl) (by simp) (AllReadyH.cons rfl (fun K hK => ?_) (AllReadyH.cons rfl (fun K hK => ?_) AllReadyH.nil))
          · refine step_cA (V := V) (some 22) (by rfl) (by rfl) (by rfl) c01 ?_; intro x0 W11 c11; refine hK.out _ _ (SC.out _ c11.below) (fun _ => ?_); clear hK K; simp only [Act.put, List.setIfInBounds_toArray, List.set_cons_zero, List.set_cons_succ]
            refine wpAnyH_ready (rs := [3, 6]) (by kernel_rfl) (by simp) (AllReadyH.cons rfl (fun K hK => ?_) (AllReadyH.cons rfl (fun K hK => ?_) AllReadyH.nil))
            · refine step_cP (V := V) (m := m) (some 25) (by rfl) (by rfl) _ _ (by rfl) (by rfl) (by rfl) c11 ROWS.out NIL.out LEN.out ?_; intro v3 W21 c21; refine hK.out _ _ (SC.out _ c21.below) (fun _ => ?_); clear hK K; simp only [Act.put, List.setIfInBounds_toArray, List.set_cons_zero, List.set_cons_succ]
              refine wpAnyH_ready (rs := [6]) (by kernel_rfl) (by simp) (AllReadyH.cons rfl (fun K hK => ?_) AllReadyH.nil)
              · refine step_aV (V := V) (m := m) (some 28) (by rfl) (by rfl) _ (by rfl) (by rfl) c21 ?_; intro c22; refine hK.out _ _ (SC.out _ c22.below) (fun _ => ?_); clear hK K; simp only [Act.put, List.setIfInBounds_toArray, List.set_cons_zero, List.set_cons_succ]
                refine wpAnyH_ready (rs := [7]) (by kernel_rfl) (by simp) (AllReadyH.cons rfl (fun K hK => ?_) AllReadyH.nil)
                · refine step_aS (V := V) (m := m) (some 29) (by rfl) (by rfl) _ (by rfl) (by rfl) c22 ?_; intro x7 W23 c23; refine hK.out _ _ (SC.out _ c23.below) (fun _ => ?_); clear hK K; simp only [Act.put, List.setIfInBounds_toArray, List.set_cons_zero, List.set_cons_succ]
                  refine wpAnyH_ready (rs := [8]) (by kernel_rfl) (by simp) (AllReadyH.cons rfl (fun K hK => ?_) AllReadyH.nil)
                  · refine step_aP (V := V) (m := m) (some 30) (by rfl) (by rfl) _ _ (by rfl) (by rfl) (by rfl) c23 LEN2.out ?_; intro v8 W8 t8 b8; refine hK.out _ _ (SC.out _ b8) (fun _ => ?_); clear hK K; simp only [Act.put, List.setIfInBounds_toArray, List.set_cons_zero, List.set_cons_succ]
                    have HHELD := SC.out _ b8
                    have H8 := H5.out.later b8
                    have T8 := T5.out.later b8
                    have k8 := H8.cell5
                    have f8 := H8.free
                    have FH := Lib.hid (H8.put t8 HLT.out HLW.out)
                    obtain ⟨ad8, cp8, rfl⟩ := Tx.long t8 LEN3.out
                    have I9 := (T8.beside RW.out HNE.out HLW.out (.slice ad8 (n + 1) cp8)).cell5
                    clear H8 T8 t8 b8
                    refine wpAnyH_take (i := 9) (v := .pointer (some ⟨w3.heap.size, 5, none⟩)) rfl (by kernel_rfl) (by kernel_rfl) (by kernel_rfl) (fun _ _ _ h => h) (Or.inl ⟨by rfl, by intro w hw; go_simp⟩) HHELD ?_
                    simp only [List.getElem_toArray, List.getElem_cons_succ, List.getElem_cons_zero, Act.put, List.setIfInBounds_toArray, List.set_cons_zero, List.set_cons_succ]
                    refine wpAnyH_ready (rs := [10]) (by kernel_rfl) (by simp) (AllReadyH.cons rfl (fun K hK => ?_) AllReadyH.nil)
                    go_simp
                    refine hK.out _ _ I9 (fun _ => ?_)
                    clear hK K
                    refine wpAnyH_done (by kernel_rfl) ?_ _
                    refine NoPanic.normal ?_
                    go_wp2_with fail
                    go_meet
                    exact ⟨⟨_, _, FH.out⟩⟩
            · refine step_cV (V := V) (m := m) (some 28) (by rfl) (by rfl) _ (by rfl) (by rfl) c11 ?_; intro c12; refine hK.out _ _ (SC.out _ c12.below) (fun _ => ?_); clear hK K; simp only [Act.put, List.setIfInBounds_toArray, List.set_cons_zero, List.set_cons_succ]
              refine wpAnyH_ready (rs := [3, 7]) (by kernel_rfl) (by simp) (AllReadyH.cons rfl (fun K hK => ?_) (AllReadyH.cons rfl (fun K hK => ?_) AllReadyH.nil))
              · refine step_cP (V := V) (m := m) (some 25) (by rfl) (by rfl) _ _ (by rfl) (by rfl) (by rfl) c12 ROWS.out NIL.out LEN.out ?_; intro v3 W22 c22; refine hK.out _ _ (SC.out _ c22.below) (fun _ => ?_); clear hK K; simp only [Act.put, List.setIfInBounds_toArray, List.set_cons_zero, List.set_cons_succ]
                refine wpAnyH_ready (rs := [7]) (by kernel_rfl) (by simp) (AllReadyH.cons rfl (fun K hK => ?_) AllReadyH.nil)
                · refine step_aS (V := V) (m := m) (some 29) (by rfl) (by rfl) _ (by rfl) (by rfl) c22 ?_; intro x7 W23 c23; refine hK.out _ _ (SC.out _ c23.below) (fun _ => ?_); clear hK K; simp only [Act.put, List.setIfInBounds_toArray, List.set_cons_zero, List.set_cons_succ]
                  refine wpAnyH_ready (rs := [8]) (by kernel_rfl) (by simp) (AllReadyH.cons rfl (fun K hK => ?_) AllReadyH.nil)
                  · refine step_aP (V := V) (m := m) (some 30) (by rfl) (by rfl) _ _ (by rfl) (by rfl) (by rfl) c23 LEN2.out ?_; intro v8 W8 t8 b8; refine hK.out _ _ (SC.out _ b8) (fun _ => ?_); clear hK K; simp only [Act.put, List.setIfInBounds_toArray, List.set_cons_zero, List.set_cons_succ]
                    have HHELD := SC.out _ b8
                    have H8 := H5.out.later b8
                    have T8 := T5.out.later b8
                    have k8 := H8.cell5
                    have f8 := H8.free
                    have FH := Lib.hid (H8.put t8 HLT.out HLW.out)
                    obtain ⟨ad8, cp8, rfl⟩ := Tx.long t8 LEN3.out
                    have I9 := (T8.beside RW.out HNE.out HLW.out (.slice ad8 (n + 1) cp8)).cell5
                    clear H8 T8 t8 b8
                    refine wpAnyH_take (i := 9) (v := .pointer (some ⟨w3.heap.size, 5, none⟩)) rfl (by kernel_rfl) (by kernel_rfl) (by kernel_rfl) (fun _ _ _ h => h) (Or.inl ⟨by rfl, by intro w hw; go_simp⟩) HHELD ?_
                    simp only [List.getElem_toArray, List.getElem_cons_succ, List.getElem_cons_zero, Act.put, List.setIfInBounds_toArray, List.set_cons_zero, List.set_cons_succ]
                    refine wpAnyH_ready (rs := [10]) (by kernel_rfl) (by simp) (AllReadyH.cons rfl (fun K hK => ?_) AllReadyH.nil)
                    go_simp
                    refine hK.out _ _ I9 (fun _ => ?_)
                    clear hK K
                    refine wpAnyH_done (by kernel_rfl) ?_ _
                    refine NoPanic.normal ?_
                    go_wp2_with fail
                    go_meet
                    exact ⟨⟨_, _, FH.out⟩⟩
              · refine step_cS (V := V) (m := m) (some 29) (by rfl) (by rfl) _ (by rfl) (by rfl) c12 ?_; intro x7 W13 c13; refine hK.out _ _ (SC.out _ c13.below) (fun _ => ?_); clear hK K; simp only [Act.put, List.setIfInBounds_toArray, List.set_cons_zero, List.set_cons_succ]
                refine wpAnyH_ready (rs := [3]) (by kernel_rfl) (by simp) (AllReadyH.cons rfl (fun K hK => ?_) AllReadyH.nil)
                · refine step_cP (V := V) (m := m) (some 25) (by rfl) (by rfl) _ _ (by rfl) (by rfl) (by rfl) c13 ROWS.out NIL.out LEN.out ?_; intro v3 W23 c23; refine hK.out _ _ (SC.out _ c23.below) (fun _ => ?_); clear hK K; simp only [Act.put, List.setIfInBounds_toArray, List.set_cons_zero, List.set_cons_succ]
                  refine wpAnyH_ready (rs := [8]) (by kernel_rfl) (by simp) (AllReadyH.cons rfl (fun K hK => ?_) AllReadyH.nil)
                  · refine step_aP (V := V) (m := m) (some 30) (by rfl) (by rfl) _ _ (by rfl) (by rfl) (by rfl) c23 LEN2.out ?_; intro v8 W8 t8 b8; refine hK.out _ _ (SC.out _ b8) (fun _ => ?_); clear hK K; simp only [Act.put, List.setIfInBounds_toArray, List.set_cons_zero, List.set_cons_succ]
                    have HHELD := SC.out _ b8
                    have H8 := H5.out.later b8
                    have T8 := T5.out.later b8
                    have k8 := H8.cell5
                    have f8 := H8.free
                    have FH := Lib.hid (H8.put t8 HLT.out HLW.out)
                    obtain ⟨ad8, cp8, rfl⟩ := Tx.long t8 LEN3.out
                    have I9 := (T8.beside RW.out HNE.out HLW.out (.slice ad8 (n + 1) cp8)).cell5
                    clear H8 T8 t8 b8
                    refine wpAnyH_take (i := 9) (v := .pointer (some ⟨w3.heap.size, 5, none⟩)) rfl (by kernel_rfl) (by kernel_rfl) (by kernel_rfl) (fun _ _ _ h => h) (Or.inl ⟨by rfl, by intro w hw; go_simp⟩) HHELD ?_
                    simp only [List.getElem_toArray, List.getElem_cons_succ, List.getElem_cons_zero, Act.put, List.setIfInBounds_toArray, List.set_cons_zero, List.set_cons_succ]
                    refine wpAnyH_ready (rs := [10]) (by kernel_rfl) (by simp) (AllReadyH.cons rfl (fun K hK => ?_) AllReadyH.nil)
                    go_simp
                    refine hK.out _ _ I9 (fun _ => ?_)
                    clear hK K
                    refine wpAnyH_done (by kernel_rfl) ?_ _
                    refine NoPanic.normal ?_
                    go_wp2_with fail
                    go_meet
                    exact ⟨⟨_, _, FH.out⟩⟩
          · refine step_cV (V := V) (m := m) (some 28) (by rfl) (by rfl) _ (by rfl) (by rfl) c01 ?_; intro c02; refine hK.out _ _ (SC.out _ c02.below) (fun _ => ?_); clear hK K; simp only [Act.put, List.setIfInBounds_toArray, List.set_cons_zero, List.set_cons_succ]
            refine wpAnyH_ready (rs := [0, 7]) (by kernel_rfl) (by simp) (AllReadyH.cons rfl (fun K hK => ?_) (AllReadyH.cons rfl (fun K hK => ?_) AllReadyH.nil))
            · refine step_cA (V := V) (some 22) (by rfl) (by rfl) (by rfl) c02 ?_; intro x0 W12 c12; refine hK.out _ _ (SC.out _ c12.below) (fun _ => ?_); clear hK K; simp only [Act.put, List.setIfInBounds_toArray, List.set_cons_zero, List.set_cons_succ]
              refine wpAnyH_ready (rs := [3, 7]) (by kernel_rfl) (by simp) (AllReadyH.cons rfl (fun K hK => ?_) (AllReadyH.cons rfl (fun K hK => ?_) AllReadyH.nil))
              · refine step_cP (V := V) (m := m) (some 25) (by rfl) (by rfl) _ _ (by rfl) (by rfl) (by rfl) c12 ROWS.out NIL.out LEN.out ?_; intro v3 W22 c22; refine hK.out _ _ (SC.out _ c22.below) (fun _ => ?_); clear hK K; simp only [Act.put, List.setIfInBounds_toArray, List.set_cons_zero, List.set_cons_succ]
                refine wpAnyH_ready (rs := [7]) (by kernel_rfl) (by simp) (AllReadyH.cons rfl (fun K hK => ?_) AllReadyH.nil)
                · refine step_aS (V := V) (m := m) (some 29) (by rfl) (by rfl) _ (by rfl) (by rfl) c22 ?_; intro x7 W23 c23; refine hK.out _ _ (SC.out _ c23.below) (fun _ => ?_); clear hK K; simp only [Act.put, List.setIfInBounds_toArray, List.set_cons_zero, List.set_cons_succ]
                  refine wpAnyH_ready (rs := [8]) (by kernel_rfl) (by simp) (AllReadyH.cons rfl (fun K hK => ?_) AllReadyH.nil)
                  · refine step_aP (V := V) (m := m) (some 30) (by rfl) (by rfl) _ _ (by rfl) (by rfl) (by rfl) c23 LEN2.out ?_; intro v8 W8 t8 b8; refine hK.out _ _ (SC.out _ b8) (fun _ => ?_); clear hK K; simp only [Act.put, List.setIfInBounds_toArray, List.set_cons_zero, List.set_cons_succ]
                    have HHELD := SC.out _ b8
                    have H8 := H5.out.later b8
                    have T8 := T5.out.later b8
                    have k8 := H8.cell5
                    have f8 := H8.free
                    have FH := Lib.hid (H8.put t8 HLT.out HLW.out)
                    obtain ⟨ad8, cp8, rfl⟩ := Tx.long t8 LEN3.out
                    have I9 := (T8.beside RW.out HNE.out HLW.out (.slice ad8 (n + 1) cp8)).cell5
                    clear H8 T8 t8 b8
                    refine wpAnyH_take (i := 9) (v := .pointer (some ⟨w3.heap.size, 5, none⟩)) rfl (by kernel_rfl) (by kernel_rfl) (by kernel_rfl) (fun _ _ _ h => h) (Or.inl ⟨by rfl, by intro w hw; go_simp⟩) HHELD ?_
                    simp only [List.getElem_toArray, List.getElem_cons_succ, List.getElem_cons_zero, Act.put, List.setIfInBounds_toArray, List.set_cons_zero, List.set_cons_succ]
                    refine wpAnyH_ready (rs := [10]) (by kernel_rfl) (by simp) (AllReadyH.cons rfl (fun K hK => ?_) AllReadyH.nil)
                    go_simp
                    refine hK.out _ _ I9 (fun _ => ?_)
                    clear hK K
                    refine wpAnyH_done (by kernel_rfl) ?_ _
                    refine NoPanic.normal ?_
                    go_wp2_with fail
                    go_meet
                    exact ⟨⟨_, _, FH.out⟩⟩
              · refine step_cS (V := V) (m := m) (some 29) (by rfl) (by rfl) _ (by rfl) (by rfl) c12 ?_; intro x7 W13 c13; refine hK.out _ _ (SC.out _ c13.below) (fun _ => ?_); clear hK K; simp only [Act.put, List.setIfInBounds_toArray, List.set_cons_zero, List.set_cons_succ]
                refine wpAnyH_ready (rs := [3]) (by kernel_rfl) (by simp) (AllReadyH.cons rfl (fun K hK => ?_) AllReadyH.nil)
                · refine step_cP (V := V) (m := m) (some 25) (by rfl) (by rfl) _ _ (by rfl) (by rfl) (by rfl) c13 ROWS.out NIL.out LEN.out ?_; intro v3 W23 c23; refine hK.out _ _ (SC.out _ c23.below) (fun _ => ?_); clear hK K; simp only [Act.put, List.setIfInBounds_toArray, List.set_cons_zero, List.set_cons_succ]
                  refine wpAnyH_ready (rs := [8]) (by kernel_rfl) (by simp) (AllReadyH.cons rfl (fun K hK => ?_) AllReadyH.nil)
                  · refine step_aP (V := V) (m := m) (some 30) (by rfl) (by rfl) _ _ (by rfl) (by rfl) (by rfl) c23 LEN2.out ?_; intro v8 W8 t8 b8; refine hK.out _ _ (SC.out _ b8) (fun _ => ?_); clear hK K; simp only [Act.put, List.setIfInBounds_toArray, List.set_cons_zero, List.set_cons_succ]
                    have HHELD := SC.out _ b8
                    have H8 := H5.out.later b8
                    have T8 := T5.out.later b8
                    have k8 := H8.cell5
                    have f8 := H8.free
                    have FH := Lib.hid (H8.put t8 HLT.out HLW.out)
                    obtain ⟨ad8, cp8, rfl⟩ := Tx.long t8 LEN3.out
                    have I9 := (T8.beside RW.out HNE.out HLW.out (.slice ad8 (n + 1) cp8)).cell5
                    clear H8 T8 t8 b8
                    refine wpAnyH_take (i := 9) (v := .pointer (some ⟨w3.heap.size, 5, none⟩)) rfl (by kernel_rfl) (by kernel_rfl) (by kernel_rfl) (fun _ _ _ h => h) (Or.inl ⟨by rfl, by intro w hw; go_simp⟩) HHELD ?_
                    simp only [List.getElem_toArray, List.getElem_cons_succ, List.getElem_cons_zero, Act.put, List.setIfInBounds_toArray, List.set_cons_zero, List.set_cons_succ]
                    refine wpAnyH_ready (rs := [10]) (by kernel_rfl) (by simp) (AllReadyH.cons rfl (fun K hK => ?_) AllReadyH.nil)
                    go_simp
                    refine hK.out _ _ I9 (fun _ => ?_)
                    clear hK K
                    refine wpAnyH_done (by kernel_rfl) ?_ _
                    refine NoPanic.normal ?_
                    go_wp2_with fail
                    go_meet
                    exact ⟨⟨_, _, FH.out⟩⟩
            · refine step_cS (V := V) (m := m) (some 29) (by rfl) (by rfl) _ (by rfl) (by rfl) c02 ?_; intro x7 W03 c03; refine hK.out _ _ (SC.out _ c03.below) (fun _ => ?_); clear hK K; simp only [Act.put, List.setIfInBounds_toArray, List.set_cons_zero, List.set_cons_succ]
              refine wpAnyH_ready (rs := [0]) (by kernel_rfl) (by simp) (AllReadyH.cons rfl (fun K hK => ?_) AllReadyH.nil)
              · refine step_cA (V := V) (some 22) (by rfl) (by rfl) (by rfl) c03 ?_; intro x0 W13 c13; refine hK.out _ _ (SC.out _ c13.below) (fun _ => ?_); clear hK K; simp only [Act.put, List.setIfInBounds_toArray, List.set_cons_zero, List.set_cons_succ]
                refine wpAnyH_ready (rs := [3]) (by kernel_rfl) (by simp) (AllReadyH.cons rfl (fun K hK => ?_) AllReadyH.nil)
                · refine step_cP (V := V) (m := m) (some 25) (by rfl) (by rfl) _ _ (by rfl) (by rfl) (by rfl) c13 ROWS.out NIL.out LEN.out ?_; intro v3 W23 c23; refine hK.out _ _ (SC.out _ c23.below) (fun _ => ?_); clear hK K; simp only [Act.put, List.setIfInBounds_toArray, List.set_cons_zero, List.set_cons_succ]
                  refine wpAnyH_ready (rs := [8]) (by kernel_rfl) (by simp) (AllReadyH.cons rfl (fun K hK => ?_) AllReadyH.nil)
                  · refine step_aP (V := V) (m := m) (some 30) (by rfl) (by rfl) _ _ (by rfl) (by rfl) (by rfl) c23 LEN2.out ?_; intro v8 W8 t8 b8; refine hK.out _ _ (SC.out _ b8) (fun _ => ?_); clear hK K; simp only [Act.put, List.setIfInBounds_toArray, List.set_cons_zero, List.set_cons_succ]
                    have HHELD := SC.out _ b8
                    have H8 := H5.out.later b8
                    have T8 := T5.out.later b8
                    have k8 := H8.cell5
                    have f8 := H8.free
                    have FH := Lib.hid (H8.put t8 HLT.out HLW.out)
                    obtain ⟨ad8, cp8, rfl⟩ := Tx.long t8 LEN3.out
                    have I9 := (T8.beside RW.out HNE.out HLW.out (.slice ad8 (n + 1) cp8)).cell5
                    clear H8 T8 t8 b8
                    refine wpAnyH_take (i := 9) (v := .pointer (some ⟨w3.heap.size, 5, none⟩)) rfl (by kernel_rfl) (by kernel_rfl) (by kernel_rfl) (fun _ _ _ h => h) (Or.inl ⟨by rfl, by intro w hw; go_simp⟩) HHELD ?_
                    simp only [List.getElem_toArray, List.getElem_cons_succ, List.getElem_cons_zero, Act.put, List.setIfInBounds_toArray, List.set_cons_zero, List.set_cons_succ]
                    refine wpAnyH_ready (rs := [10]) (by kernel_rfl) (by simp) (AllReadyH.cons rfl (fun K hK => ?_) AllReadyH.nil)
                    go_simp
                    refine hK.out _ _ I9 (fun _ => ?_)
                    clear hK K
                    refine wpAnyH_done (by kernel_rfl) ?_ _
                    refine NoPanic.normal ?_
                    go_wp2_with fail
                    go_meet
                    exact ⟨⟨_, _, FH.out⟩⟩
      case rest =>
        obtain ⟨⟨ad8, cp8, T5⟩⟩ := hcut
        have T6 := Lib.hid T5
        obtain ⟨k0, k1, k2, k3, k4, k5⟩ := T5.six
        have hr := may_used MAY.out
        have U2 : used (P.more (zerosB m)).rows ≤ 1000000 := by
          show used (P.rows ++ [zerosB m]) ≤ _
          rw [used_more, zeros_size]; omega
        have K15 := Lib.hid (fun (W : World) (t : Bx w W w3.heap.size (P.more (zerosB m)) (.slice ad8 (n + 1) cp8)) => may_any (P.more (zerosB m)) t.rows U2)
        have K16 := Lib.hid (fun (W : World) (t : Bx w W w3.heap.size (P.more (zerosB m)) (.slice ad8 (n + 1) cp8)) => room_any (P.more (zerosB m)) t.rows U2)
        rw [may_more MAY.out, zeros_size] at K15
        have RM := Lib.hid (fun h => room_more (P := P) (s := zerosB m) MAY.out h)
        rw [zeros_size] at RM
        obtain ⟨r0, r1⟩ : -1 ≤ roomI P.rows ∧ roomI P.rows ≤ 480 := by unfold roomI; split <;> omega
        have BW := Lib.hid T5.below
        clear T5 hr U2 T3 N L1 MAY PWF NIL RW a0 a1 a2 a3 a4 a5
        unfold pgV at K15 K16
        generalize roomI P.rows = R at *
        by_cases hR : (m : Int) ≤ R
        · have e1 : decide ((m : Int) ≤ R) = true := decide_eq_true hR
          have e2 : decide (R < (m : Int)) = false := decide_eq_false (by omega)
          have RM2 := Lib.hid (RM.out hR)
          rw [RM2.out] at K16
          rw [e1] at K15
          clear RM RM2
          go_wp2_with fail
          refine (K15.out _ T6.out).mono ?_
          rintro e w4 ⟨rfl, b4⟩
          have T7 := Lib.hid (T6.out.later b4)
          clear b4 T6 K15 k0 k1 k2 k3 k4 k5
          obtain ⟨k0, k1, k2, k3, k4, k5⟩ := T7.out.six
          go_wp2_with fail
          refine (K16.out _ T7.out).mono ?_
          rintro e w5 ⟨rfl, b5⟩
          have T8 := Lib.hid (T7.out.later b5)
          clear b5 T7 K16 k0 k1 k2 k3 k4 k5
          have e3 : (max (R - 4 - (m : Int)) (-1) == max (R - 4 - (m : Int)) (-1)) = true := by simp
          go_wp2_with fail
          refine (alive_any _).mono ?_
          rintro e w6 ⟨rfl, b6⟩
          have E := Lib.hid (T8.out.later b6).below
          clear b6 T8
          go_wp2_with fail
          go_ret
          exact ⟨rfl, E.out⟩
        · have e1 : decide ((m : Int) ≤ R) = false := decide_eq_false hR
          have e2 : decide (R < (m : Int)) = true := decide_eq_true (by omega)
          rw [e1] at K15
          clear RM K16
          go_wp2_with fail
          refine (K15.out _ T6.out).mono ?_
          rintro e w4 ⟨rfl, b4⟩
          have T7 := Lib.hid (T6.out.later b4)
          clear b4 T6 K15 k0 k1 k2 k3 k4 k5
          go_wp2_with fail
          refine (alive_any _).mono ?_
          rintro e w6 ⟨rfl, b6⟩
          have E := Lib.hid (T7.out.later b6).below
          clear b6 T7
          go_wp2_with fail
          go_ret
          exact ⟨rfl, E.out⟩

end Go.Proofs.Ytmandeohbiagfaa.Page

namespace Go.Proofs.Ytmandeohbiagfaa.pageRoom
open Go.ChangeShapes Go.WideShapes Go.ChangeAt Go.RowKit
open Go.ChangeMaps (open_string shut_string)

theorem own : ownKnob Try.prog.godebug = none := by kernel_rfl
theorem laidOut : laidOutB Try.prog = true := by kernel_rfl

set_option maxRecDepth 100000 in
theorem lifted (os : Os) (started : os.Started) (H : Type) (enc : TypeId × Value → H) :
    ReturnsInHanded {} Try.checked os 7 .any (Rows.pageRoomSpec.pre6 enc Try.prog Try.f7 Rows.pageRoomRow.domain false) (Rows.pageRoomSpec.post enc Try.prog Try.f7 false true false false) := by
  refine returnsInHanded_of_change_sized (C := Try.checked) own started (by kernel_rfl) Try.func7
    (ChangeSpec.witness6 (enc := enc) (C := Try.checked) false ⟨#[], #[.agg #[.int .u8 0, .int .u8 0, .int .u32 0, .int .u64 0, .int .u32 0, .slice none 0 0], .int .u16 0], []⟩ 8 (by kernel_rfl) (by kernel_rfl) (by kernel_rfl) (by kernel_rfl)) ?_
  intro W base args ds gs before hval0 hW hcnd hsz0 _
  have hsz : (DataW.weightsEach Try.prog (Try.f7.params.toList ++ Rows.pageRoomSpec.plain.varTypes Try.prog) (ds ++ gs)).all (· ≤ reachBytes) = true := hsz0
  have hval : ∀ (j : Nat) t v, Try.f7.params[j]? = some t → args[j]? = some v → Value.okWide Try.prog W .any base t v := hval0
  have hW' := hW
  obtain ⟨p, q, hA0, hV, rfl, hfz, hnd⟩ := hW
  have hA : DataW.TrodAll enc Try.prog W 0 (fun _ => true) true Try.f7.params.toList args.toList ds p := hA0
  have hlt := DataW.TrodAll.lt hA0
  rw [Try.params7] at hA hval hsz
  obtain ⟨v0, vs0, d0, ds0, p0, q0, hargs, rfl, rfl, h0, r0⟩ := trodAll_cons hA
  obtain ⟨v1, vs1, d1, ds1, p1, q1, rfl, rfl, rfl, h1, r1⟩ := trodAll_cons r0
  obtain ⟨rfl, rfl, rfl⟩ := trodAll_nil r1
  obtain rfl : args = #[v0, v1] := by cases args; simp_all
  obtain ⟨rfl, rfl⟩ := trodVars_none hV
  have z0 : ∀ n ∈ d0.weights Try.prog 26, n ≤ 140737488351232 := fun n hn => by
    have := List.all_eq_true.1 hsz _ (DataW.weights_mem_each (j := 0) rfl rfl n hn)
    exact of_decide_eq_true this
  obtain ⟨P0, u0, rfl, hp0⟩ := Page.page_of (hval 0 26 v0 rfl rfl) h0 z0
  obtain ⟨a1, rfl, rfl, rfl, w1⟩ := open_int Try.underlying44 (hval 1 44 v1 rfl rfl) h1
  clear hA0 hval0
  simp only [List.append_nil] at hW' hlt
  refine (Page.proom_walk hp0 (bounds_u16 w1)).mono fun e W' ⟨he, hg⟩ => ?_
  subst he
  exact ⟨_, rfl, _, _, _, [], _, [], hW', (trodAll_cons_mk (shut_bool Try.underlying4 _) trodAll_mk0), (trodAll_cons_mk (Below.trod laidOut (by kernel_rfl) (of_decide_eq_true (by kernel_rfl)) h0 hg (fun x hx => hlt x (by simp [hx]))) (trodAll_cons_mk (shut_int Try.underlying44 w1) trodAll_mk0)), rfl, hg.frame _, fun h => by cases h⟩

theorem over : Rows.pageRoomRow.holds Try.pinned (OpenSpec.ofChange Rows.pageRoomSpec) :=
  OpenClaim.holds_of_wide 7 Try.f7 rfl rfl rfl rfl rfl rfl rfl ⟨rfl, rfl, rfl, rfl, rfl⟩ rfl rfl rfl rfl rfl (by kernel_rfl) Try.func7 (by kernel_rfl)
    (of_decide_eq_true (by kernel_rfl)) (by unfold Func.isWrapper; first | (rw [if_pos (by decide +kernel)]; kernel_rfl) | (rw [if_neg (by decide +kernel)]; exact ⟨rfl, rfl⟩))
    (fun os started H enc _ => lifted os started H enc)

theorem proved : Rows.PageRoomSaid :=
  over
end Go.Proofs.Ytmandeohbiagfaa.pageRoom
