/- Walks: the document's Decode. -/
import Derived.Test.YtfcibccipkokoaaZC5
import Derived.Test.YtfcibccipkokoaaST
namespace Go.Proofs.Ytfcibccipkokoaa.Mas
open Go.RowKit
attribute [local go_sem ↓] Go.wp_at_zero Go.wp_at_succ

set_option maxRecDepth 100000 in
theorem alloc_ms (W : World) : (Instr.alloc 40 true (.tuple #[])).run Try.prog W = .ok (.pointer (some ⟨W.heap.size, 0, none⟩)) (W.alloc (.cells (msC Ms.zero) 40)) := by
  kernel_rfl
section
variable {ops : Array Oper} {o : Oper} {act : Act} {Q : Exit → Act → World → Prop} {K : Act → World → Prop} {E : Prop} {W : World}
theorem want_if (hgd : o.guard = none) (h : Oper.wp Try.prog o act W K Q) : if Region.wanted o (yielded ops act.tmps) = true then Oper.wp Try.prog o act W K Q else E := by
  have hw : Region.wanted o (yielded ops act.tmps) = true := by simp [Region.wanted, hgd]
  rw [if_pos hw]
  exact h
theorem step_al (t : Option Tmp) (hdst : o.dst = t) (hgd : o.guard = none) (ho : o.op = .alloc 40) (h : K (act.put t (.pointer (some ⟨W.heap.size, 0, none⟩))) (W.alloc (.cells (msC Ms.zero) 40))) : if Region.wanted o (yielded ops act.tmps) = true then Oper.wp Try.prog o act W K Q else E := by
  subst hdst
  refine want_if hgd ?_
  unfold Oper.wp execOp
  simp only [ho, Sem.run_bind, alloc_ms, Result.andThen_ok]
  exact h
theorem step_st (m : Ms) (t : Option Tmp) (hdst : o.dst = t) (hgd : o.guard = none) (p q : Operand) (ho : o.op = .store 40 p q) {x : Nat} (hp : act.eval p = .pointer (some ⟨x, 0, none⟩)) (hq : act.eval q = .agg (msC m)) {z : Ms} (hx : W.heap[x]? = some (.cells (msC z) 40 (0, 0))) (h : K (act.put t undef) (W.setRow x (msC m))) : if Region.wanted o (yielded ops act.tmps) = true then Oper.wp Try.prog o act W K Q else E := by
  subst hdst
  refine want_if hgd ?_
  exact wp_store_row 40 p q ho x (msC m) hp hq 40 (msC z) hx info_ms rfl (ms_one m) h
end

theorem decode_short {s : ByteArray} (h : s.size ≠ 128) : decM s = Ms.zero ∧ decE s = 7 :=
  dec_no (by cases k : isM s with
    | false => rfl
    | true => exact absurd (isM_size k) h)

set_option maxRecDepth 100000 in
set_option maxHeartbeats 4000000 in
theorem rdecode_no (s : ByteArray) (w : World) (h : s.size ≠ 128) :
    Calls Try.prog 18 #[.string s] w (DecP s w) := by
  have T0 := Lib.hid (Mb.new Ms.zero (Below.refl w.heap.size w))
  have HP := Lib.hid (fun (W : World) (b : Below w.heap.size w W) => show DecP s w (.returned (.tuple #[msV Ms.zero, .int .i64 7])) W from by obtain ⟨h1, h2⟩ := decode_short h; exact ⟨by rw [h1, h2], b⟩)
  have e1 : ((s.size : Int) != 128) = true := by simp; omega
  have hZ : msC Ms.zero = #[.int .u64 0, .int .u64 0, .int .u64 0, .int .u64 0, .bool false] := rfl
  have HB := Lib.hid T0.out.box
  have HL := Lib.hid T0.out.below
  clear T0 h
  rw [hZ] at HB HL
  clear hZ
  go_enter Try.func18, Try.ntmps18
  go_wp2_with (refine wpList_store_row rfl 40 _ _ rfl w.heap.size (msC Ms.zero) rfl rfl 40 (msC Ms.zero) HB.out info_ms rfl (ms_one _) ?_)
  exact bodyPost_ret (v := .tuple #[msV Ms.zero, .int .i64 7]) (results_two Try.results18 _ _ w.heap.size (msC Ms.zero) 7 rfl rfl (setRow_heap _ _ _ _ _ _ HB.out) Try.underlying40 info_ms) rfl (HP.out _ (below_setRow HL.out (Nat.le_refl _) _))

set_option linter.unusedSimpArgs false in
set_option maxRecDepth 100000 in
set_option maxHeartbeats 4000000 in
theorem rdecode_yes (s : ByteArray) (w : World) (h : s.size = 128) :
    Calls Try.prog 18 #[.string s] w (DecP s w) := by
  have T0 := Lib.hid (Mb.new Ms.zero (Below.refl w.heap.size w))
  have K : ∀ (a : Nat) (W : World), a ≤ 1000 → Calls Try.prog 43 #[.string s, .int .i64 (a : Int)] W fun e w' => e = .returned (.int .u64 (numA s a : Int)) ∧ W = w' := fun a W ha => rget_at s a W (by omega) ha
  have K1 := Lib.hid (fun W => show Calls Try.prog 43 #[.string s, .int .i64 1] W fun e w' => e = .returned (.int .u64 ((rdM s).count : Int)) ∧ W = w' from K 1 W (by omega))
  have K2 := Lib.hid (fun W => show Calls Try.prog 43 #[.string s, .int .i64 9] W fun e w' => e = .returned (.int .u64 ((rdM s).life : Int)) ∧ W = w' from K 9 W (by omega))
  have K3 := Lib.hid (fun W => show Calls Try.prog 43 #[.string s, .int .i64 17] W fun e w' => e = .returned (.int .u64 ((rdM s).check : Int)) ∧ W = w' from K 17 W (by omega))
  have K4 := Lib.hid (fun W => show Calls Try.prog 43 #[.string s, .int .i64 25] W fun e w' => e = .returned (.int .u64 ((rdM s).first : Int)) ∧ W = w' from K 25 W (by omega))
  have KE := Lib.hid (fun W => rencode_any (rdM s) W (rd_wf s))
  have h33 : 33 < s.size := by omega
  have hcl : ((((s[33]'h33).toNat : Int)) == 1) = (rdM s).clean := by
    show _ = decide (s.data.toList[33]? = some 1)
    have : s.data.toList[33]? = some (s[33]'h33) := by rw [List.getElem?_eq_getElem (by simpa using h33)]; rfl
    rw [this, Bool.eq_iff_iff]
    simp only [beq_iff_eq, decide_eq_true_eq, Option.some.injEq]
    constructor
    · intro e; exact UInt8.toNat_inj.1 (by simpa using (by omega : (s[33]'h33).toNat = 1))
    · intro e; rw [e]; rfl
  have e1 : ((s.size : Int) != 128) = false := by simp; omega
  have hi := isM_eq s
  have E1 := Lib.hid (fun h : isM s = true => dec_yes h)
  have E2 := Lib.hid (fun h : isM s = false => dec_no h)
  have HP := Lib.hid (fun (m : Ms) (x : Int) (W : World) (h1 : decM s = m ∧ decE s = x) (b : Below w.heap.size w W) => show DecP s w (.returned (.tuple #[msV m, .int .i64 x])) W from ⟨by rw [h1.1, h1.2], b⟩)
  have eb := bytes_eq (encB (rdM s)) s
  rw [← eb] at hi
  have hmz : encB (rdM s) = s → encE (rdM s) = 0 := fun e => by
    cases hk : okM (rdM s) with
    | true => exact encE_yes hk
    | false =>
      exfalso
      have h2 : (encB (rdM s)).size = s.size := by rw [e]
      rw [h] at h2
      have h3 : (encB (rdM s)).data.toList.length = 128 := h2
      rw [encB_list, enc_no hk] at h3
      simp at h3
  have hi2 : isM s = ((encB (rdM s)).toList == s.toList) := by
    rw [hi, eb]
    cases hq : decide (encB (rdM s) = s) with
    | false => rw [Bool.and_false]
    | true => rw [decide_eq_true (hmz (of_decide_eq_true hq))]; rfl
  have HI := Lib.hid hi2
  clear h hi eb K hmz hi2
  generalize rdM s = m at *
  generalize encB m = t at *
  generalize isM s = b at *
  unfold msV msC at KE
  have hZ : msC Ms.zero = #[.int .u64 0, .int .u64 0, .int .u64 0, .int .u64 0, .bool false] := rfl
  rw [hZ] at T0
  clear hZ
  have h33i : (33 : Int) < (s.size : Int) := by omega
  go_enter Try.func18, Try.ntmps18
  go_wp2_with fail
  have T1 := Lib.hid T0.out.drew
  have HA := Lib.hid (heap_alloc_new (w.alloc (.cells (msC Ms.zero) 40)).drew (.cells (msC Ms.zero) 40))
  have HT : Hid (Tb w (((w.alloc (.cells (msC Ms.zero) 40)).drew.alloc (.cells (msC Ms.zero) 40)).setRow (w.alloc (.cells (msC Ms.zero) 40)).drew.heap.size (msC m)) w.heap.size (w.alloc (.cells (msC Ms.zero) 40)).drew.heap.size Ms.zero m) := by
    refine Lib.hid ?_
    have t : Mb w (w.alloc (.cells (msC Ms.zero) 40)).drew w.heap.size Ms.zero := T1.out
    have hlt := t.lt
    have b2 := t.below.alloc t.below.size (.cells (msC Ms.zero) 40)
    exact ⟨⟨by rw [setRow_other _ _ _ _ (by omega), Below.heap_alloc _ _ _ hlt]; exact t.box, t.own, below_setRow b2 (by have := t.below.size; exact this) _⟩, ⟨setRow_heap _ _ _ _ _ _ HA.out, t.below.size, below_setRow b2 t.below.size _⟩, by omega⟩
  go_cut [4] (fun x wx => ∃ g, x = .pointer (some ⟨g, 0, none⟩) ∧ Tb w wx w.heap.size g Ms.zero m)
  case first =>
    -- the region
    refine wp_region_noPanic ?_
    refine wp_region_held_drew (S := fun _ => True) (by kernel_rfl) trivial (fun hHeld => ?_)
    refine wpAnyH_take (i := 0) (v := ?_) rfl (by kernel_rfl) (by kernel_rfl) (by kernel_rfl) (fun _ _ _ h => h) (Or.inl ⟨by rfl, ?_⟩) hHeld ?_
    rotate_left
    · (intro w hSw; (try dsimp only at hSw); go_simp; (try with_reducible rfl))
    simp only [List.getElem_toArray, List.getElem_cons_succ, List.getElem_cons_zero, Act.put, List.setIfInBounds_toArray, List.set_cons_zero, List.set_cons_succ]
    refine wpAnyH_take (i := 2) (v := ?_) rfl (by kernel_rfl) (by kernel_rfl) (by kernel_rfl) (fun _ _ _ h => h) (Or.inl ⟨by rfl, ?_⟩) hHeld ?_
    rotate_left
    · (intro w hSw; (try dsimp only at hSw); go_simp; (try with_reducible rfl))
    simp only [List.getElem_toArray, List.getElem_cons_succ, List.getElem_cons_zero, Act.put, List.setIfInBounds_toArray, List.set_cons_zero, List.set_cons_succ]
    refine wpAnyH_take (i := 4) (v := ?_) rfl (by kernel_rfl) (by kernel_rfl) (by kernel_rfl) (fun _ _ _ h => h) (Or.inl ⟨by rfl, ?_⟩) hHeld ?_
    rotate_left
    · (intro w hSw; (try dsimp only at hSw); go_simp; (try with_reducible rfl))
    simp only [List.getElem_toArray, List.getElem_cons_succ, List.getElem_cons_zero, Act.put, List.setIfInBounds_toArray, List.set_cons_zero, List.set_cons_succ]
    refine wpAnyH_take (i := 6) (v := ?_) rfl (by kernel_rfl) (by kernel_rfl) (by kernel_rfl) (fun _ _ _ h => h) (Or.inl ⟨by rfl, ?_⟩) hHeld ?_
    rotate_left
    · (intro w hSw; (try dsimp only at hSw); go_simp; (try with_reducible rfl))
    simp only [List.getElem_toArray, List.getElem_cons_succ, List.getElem_cons_zero, Act.put, List.setIfInBounds_toArray, List.set_cons_zero, List.set_cons_succ]
    refine wpAnyH_take (i := 8) (v := ?_) rfl (by kernel_rfl) (by kernel_rfl) (by kernel_rfl) (fun _ _ _ h => h) (Or.inl ⟨by rfl, ?_⟩) hHeld ?_
    rotate_left
    · (intro w hSw; (try dsimp only at hSw); go_simp; (try with_reducible rfl))
    simp only [List.getElem_toArray, List.getElem_cons_succ, List.getElem_cons_zero, Act.put, List.setIfInBounds_toArray, List.set_cons_zero, List.set_cons_succ]
    refine wpAnyH_take (i := 9) (v := ?_) rfl (by kernel_rfl) (by kernel_rfl) (by kernel_rfl) (fun _ _ _ h => h) (Or.inl ⟨by rfl, ?_⟩) hHeld ?_
    rotate_left
    · (intro w hSw; (try dsimp only at hSw); go_simp; (try with_reducible rfl))
    simp only [List.getElem_toArray, List.getElem_cons_succ, List.getElem_cons_zero, Act.put, List.setIfInBounds_toArray, List.set_cons_zero, List.set_cons_succ]
    refine wpAnyH_take (i := 10) (v := ?_) rfl (by kernel_rfl) (by kernel_rfl) (by kernel_rfl) (fun _ _ _ h => h) (Or.inl ⟨by rfl, ?_⟩) hHeld ?_
    rotate_left
    · (intro w hSw; (try dsimp only at hSw); go_simp; (try with_reducible rfl))
    simp only [List.getElem_toArray, List.getElem_cons_succ, List.getElem_cons_zero, Act.put, List.setIfInBounds_toArray, List.set_cons_zero, List.set_cons_succ]
    refine wpAnyH_ready (rs := [1, 12]) (by kernel_rfl) (by simp) (AllReadyH.cons rfl (fun K hK => ?_) (AllReadyH.cons rfl (fun K hK => ?_) AllReadyH.nil))
    · skip
      refine step_fnW (by rfl) (.func 43) [.tmp 9, .const (.int .i64 1)] _ rfl 43 [] (by simp [Act.eval]) _ Try.func43 (by kernel_rfl) (by kernel_rfl) (K1.out _) (by simp [Act.eval]) ?_
      rintro e w2 ⟨rfl, rfl⟩
      refine ⟨_, rfl, ?_⟩
      refine hK.out _ _ trivial (fun hHeld => ?_)
      clear hK K
      simp only [List.getElem_toArray, List.getElem_cons_succ, List.getElem_cons_zero, Act.put, List.setIfInBounds_toArray, List.set_cons_zero, List.set_cons_succ]
      refine wpAnyH_ready (rs := [3, 12]) (by kernel_rfl) (by simp) (AllReadyH.cons rfl (fun K hK => ?_) (AllReadyH.cons rfl (fun K hK => ?_) AllReadyH.nil))
      · skip
        refine step_fnW (by rfl) (.func 43) [.tmp 11, .const (.int .i64 9)] _ rfl 43 [] (by simp [Act.eval]) _ Try.func43 (by kernel_rfl) (by kernel_rfl) (K2.out _) (by simp [Act.eval]) ?_
        rintro e w2 ⟨rfl, rfl⟩
        refine ⟨_, rfl, ?_⟩
        refine hK.out _ _ trivial (fun hHeld => ?_)
        clear hK K
        simp only [List.getElem_toArray, List.getElem_cons_succ, List.getElem_cons_zero, Act.put, List.setIfInBounds_toArray, List.set_cons_zero, List.set_cons_succ]
        refine wpAnyH_ready (rs := [5, 12]) (by kernel_rfl) (by simp) (AllReadyH.cons rfl (fun K hK => ?_) (AllReadyH.cons rfl (fun K hK => ?_) AllReadyH.nil))
        · skip
          refine step_fnW (by rfl) (.func 43) [.tmp 13, .const (.int .i64 17)] _ rfl 43 [] (by simp [Act.eval]) _ Try.func43 (by kernel_rfl) (by kernel_rfl) (K3.out _) (by simp [Act.eval]) ?_
          rintro e w2 ⟨rfl, rfl⟩
          refine ⟨_, rfl, ?_⟩
          refine hK.out _ _ trivial (fun hHeld => ?_)
          clear hK K
          simp only [List.getElem_toArray, List.getElem_cons_succ, List.getElem_cons_zero, Act.put, List.setIfInBounds_toArray, List.set_cons_zero, List.set_cons_succ]
          refine wpAnyH_ready (rs := [7, 12]) (by kernel_rfl) (by simp) (AllReadyH.cons rfl (fun K hK => ?_) (AllReadyH.cons rfl (fun K hK => ?_) AllReadyH.nil))
          · skip
            refine step_fnW (by rfl) (.func 43) [.tmp 15, .const (.int .i64 25)] _ rfl 43 [] (by simp [Act.eval]) _ Try.func43 (by kernel_rfl) (by kernel_rfl) (K4.out _) (by simp [Act.eval]) ?_
            rintro e w2 ⟨rfl, rfl⟩
            refine ⟨_, rfl, ?_⟩
            refine hK.out _ _ trivial (fun hHeld => ?_)
            clear hK K
            simp only [List.getElem_toArray, List.getElem_cons_succ, List.getElem_cons_zero, Act.put, List.setIfInBounds_toArray, List.set_cons_zero, List.set_cons_succ]
            refine wpAnyH_take (i := 11) (v := ?_) rfl (by kernel_rfl) (by kernel_rfl) (by kernel_rfl) (fun _ _ _ h => h) (Or.inl ⟨by rfl, ?_⟩) hHeld ?_
            rotate_left
            · (intro w hSw; (try dsimp only at hSw); go_simp; (try with_reducible rfl))
            simp only [List.getElem_toArray, List.getElem_cons_succ, List.getElem_cons_zero, Act.put, List.setIfInBounds_toArray, List.set_cons_zero, List.set_cons_succ]
            refine wpAnyH_ready (rs := [12]) (by kernel_rfl) (by simp) (AllReadyH.cons rfl (fun K hK => ?_) AllReadyH.nil)
            refine step_al (some 4) (by rfl) (by rfl) (by rfl) ?_
            refine hK.out _ _ trivial (fun hHeld => ?_)
            clear hK K
            simp only [List.getElem_toArray, List.getElem_cons_succ, List.getElem_cons_zero, Act.put, List.setIfInBounds_toArray, List.set_cons_zero, List.set_cons_succ]
            refine wpAnyH_ready (rs := [13]) (by kernel_rfl) (by simp) (AllReadyH.cons rfl (fun K hK => ?_) AllReadyH.nil)
            refine step_st m none (by rfl) (by rfl) (.tmp 4) (.tmp 20) (by rfl) (by rfl) (by rfl) HA.out ?_
            refine hK.out _ _ trivial (fun hHeld => ?_)
            clear hK K
            simp only [List.getElem_toArray, List.getElem_cons_succ, List.getElem_cons_zero, Act.put, List.setIfInBounds_toArray, List.set_cons_zero, List.set_cons_succ]
            refine wpAnyH_done (by kernel_rfl) ?_ _
            refine NoPanic.normal ?_
            go_wp2_with fail
            go_meet
            exact ⟨_, rfl, HT.out⟩
          · skip
            refine step_al (some 4) (by rfl) (by rfl) (by rfl) ?_
            refine hK.out _ _ trivial (fun hHeld => ?_)
            clear hK K
            simp only [List.getElem_toArray, List.getElem_cons_succ, List.getElem_cons_zero, Act.put, List.setIfInBounds_toArray, List.set_cons_zero, List.set_cons_succ]
            refine wpAnyH_ready (rs := [7]) (by kernel_rfl) (by simp) (AllReadyH.cons rfl (fun K hK => ?_) AllReadyH.nil)
            refine step_fnW (by rfl) (.func 43) [.tmp 15, .const (.int .i64 25)] _ rfl 43 [] (by simp [Act.eval]) _ Try.func43 (by kernel_rfl) (by kernel_rfl) (K4.out _) (by simp [Act.eval]) ?_
            rintro e w2 ⟨rfl, rfl⟩
            refine ⟨_, rfl, ?_⟩
            refine hK.out _ _ trivial (fun hHeld => ?_)
            clear hK K
            simp only [List.getElem_toArray, List.getElem_cons_succ, List.getElem_cons_zero, Act.put, List.setIfInBounds_toArray, List.set_cons_zero, List.set_cons_succ]
            refine wpAnyH_take (i := 11) (v := ?_) rfl (by kernel_rfl) (by kernel_rfl) (by kernel_rfl) (fun _ _ _ h => h) (Or.inl ⟨by rfl, ?_⟩) hHeld ?_
            rotate_left
            · (intro w hSw; (try dsimp only at hSw); go_simp; (try with_reducible rfl))
            simp only [List.getElem_toArray, List.getElem_cons_succ, List.getElem_cons_zero, Act.put, List.setIfInBounds_toArray, List.set_cons_zero, List.set_cons_succ]
            refine wpAnyH_ready (rs := [13]) (by kernel_rfl) (by simp) (AllReadyH.cons rfl (fun K hK => ?_) AllReadyH.nil)
            refine step_st m none (by rfl) (by rfl) (.tmp 4) (.tmp 20) (by rfl) (by rfl) (by rfl) HA.out ?_
            refine hK.out _ _ trivial (fun hHeld => ?_)
            clear hK K
            simp only [List.getElem_toArray, List.getElem_cons_succ, List.getElem_cons_zero, Act.put, List.setIfInBounds_toArray, List.set_cons_zero, List.set_cons_succ]
            refine wpAnyH_done (by kernel_rfl) ?_ _
            refine NoPanic.normal ?_
            go_wp2_with fail
            go_meet
            exact ⟨_, rfl, HT.out⟩
        · skip
          refine step_al (some 4) (by rfl) (by rfl) (by rfl) ?_
          refine hK.out _ _ trivial (fun hHeld => ?_)
          clear hK K
          simp only [List.getElem_toArray, List.getElem_cons_succ, List.getElem_cons_zero, Act.put, List.setIfInBounds_toArray, List.set_cons_zero, List.set_cons_succ]
          refine wpAnyH_ready (rs := [5]) (by kernel_rfl) (by simp) (AllReadyH.cons rfl (fun K hK => ?_) AllReadyH.nil)
          refine step_fnW (by rfl) (.func 43) [.tmp 13, .const (.int .i64 17)] _ rfl 43 [] (by simp [Act.eval]) _ Try.func43 (by kernel_rfl) (by kernel_rfl) (K3.out _) (by simp [Act.eval]) ?_
          rintro e w2 ⟨rfl, rfl⟩
          refine ⟨_, rfl, ?_⟩
          refine hK.out _ _ trivial (fun hHeld => ?_)
          clear hK K
          simp only [List.getElem_toArray, List.getElem_cons_succ, List.getElem_cons_zero, Act.put, List.setIfInBounds_toArray, List.set_cons_zero, List.set_cons_succ]
          refine wpAnyH_ready (rs := [7]) (by kernel_rfl) (by simp) (AllReadyH.cons rfl (fun K hK => ?_) AllReadyH.nil)
          refine step_fnW (by rfl) (.func 43) [.tmp 15, .const (.int .i64 25)] _ rfl 43 [] (by simp [Act.eval]) _ Try.func43 (by kernel_rfl) (by kernel_rfl) (K4.out _) (by simp [Act.eval]) ?_
          rintro e w2 ⟨rfl, rfl⟩
          refine ⟨_, rfl, ?_⟩
          refine hK.out _ _ trivial (fun hHeld => ?_)
          clear hK K
          simp only [List.getElem_toArray, List.getElem_cons_succ, List.getElem_cons_zero, Act.put, List.setIfInBounds_toArray, List.set_cons_zero, List.set_cons_succ]
          refine wpAnyH_take (i := 11) (v := ?_) rfl (by kernel_rfl) (by kernel_rfl) (by kernel_rfl) (fun _ _ _ h => h) (Or.inl ⟨by rfl, ?_⟩) hHeld ?_
          rotate_left
          · (intro w hSw; (try dsimp only at hSw); go_simp; (try with_reducible rfl))
          simp only [List.getElem_toArray, List.getElem_cons_succ, List.getElem_cons_zero, Act.put, List.setIfInBounds_toArray, List.set_cons_zero, List.set_cons_succ]
          refine wpAnyH_ready (rs := [13]) (by kernel_rfl) (by simp) (AllReadyH.cons rfl (fun K hK => ?_) AllReadyH.nil)
          refine step_st m none (by rfl) (by rfl) (.tmp 4) (.tmp 20) (by rfl) (by rfl) (by rfl) HA.out ?_
          refine hK.out _ _ trivial (fun hHeld => ?_)
          clear hK K
          simp only [List.getElem_toArray, List.getElem_cons_succ, List.getElem_cons_zero, Act.put, List.setIfInBounds_toArray, List.set_cons_zero, List.set_cons_succ]
          refine wpAnyH_done (by kernel_rfl) ?_ _
          refine NoPanic.normal ?_
          go_wp2_with fail
          go_meet
          exact ⟨_, rfl, HT.out⟩
      · skip
        refine step_al (some 4) (by rfl) (by rfl) (by rfl) ?_
        refine hK.out _ _ trivial (fun hHeld => ?_)
        clear hK K
        simp only [List.getElem_toArray, List.getElem_cons_succ, List.getElem_cons_zero, Act.put, List.setIfInBounds_toArray, List.set_cons_zero, List.set_cons_succ]
        refine wpAnyH_ready (rs := [3]) (by kernel_rfl) (by simp) (AllReadyH.cons rfl (fun K hK => ?_) AllReadyH.nil)
        refine step_fnW (by rfl) (.func 43) [.tmp 11, .const (.int .i64 9)] _ rfl 43 [] (by simp [Act.eval]) _ Try.func43 (by kernel_rfl) (by kernel_rfl) (K2.out _) (by simp [Act.eval]) ?_
        rintro e w2 ⟨rfl, rfl⟩
        refine ⟨_, rfl, ?_⟩
        refine hK.out _ _ trivial (fun hHeld => ?_)
        clear hK K
        simp only [List.getElem_toArray, List.getElem_cons_succ, List.getElem_cons_zero, Act.put, List.setIfInBounds_toArray, List.set_cons_zero, List.set_cons_succ]
        refine wpAnyH_ready (rs := [5]) (by kernel_rfl) (by simp) (AllReadyH.cons rfl (fun K hK => ?_) AllReadyH.nil)
        refine step_fnW (by rfl) (.func 43) [.tmp 13, .const (.int .i64 17)] _ rfl 43 [] (by simp [Act.eval]) _ Try.func43 (by kernel_rfl) (by kernel_rfl) (K3.out _) (by simp [Act.eval]) ?_
        rintro e w2 ⟨rfl, rfl⟩
        refine ⟨_, rfl, ?_⟩
        refine hK.out _ _ trivial (fun hHeld => ?_)
        clear hK K
        simp only [List.getElem_toArray, List.getElem_cons_succ, List.getElem_cons_zero, Act.put, List.setIfInBounds_toArray, List.set_cons_zero, List.set_cons_succ]
        refine wpAnyH_ready (rs := [7]) (by kernel_rfl) (by simp) (AllReadyH.cons rfl (fun K hK => ?_) AllReadyH.nil)
        refine step_fnW (by rfl) (.func 43) [.tmp 15, .const (.int .i64 25)] _ rfl 43 [] (by simp [Act.eval]) _ Try.func43 (by kernel_rfl) (by kernel_rfl) (K4.out _) (by simp [Act.eval]) ?_
        rintro e w2 ⟨rfl, rfl⟩
        refine ⟨_, rfl, ?_⟩
        refine hK.out _ _ trivial (fun hHeld => ?_)
        clear hK K
        simp only [List.getElem_toArray, List.getElem_cons_succ, List.getElem_cons_zero, Act.put, List.setIfInBounds_toArray, List.set_cons_zero, List.set_cons_succ]
        refine wpAnyH_take (i := 11) (v := ?_) rfl (by kernel_rfl) (by kernel_rfl) (by kernel_rfl) (fun _ _ _ h => h) (Or.inl ⟨by rfl, ?_⟩) hHeld ?_
        rotate_left
        · (intro w hSw; (try dsimp only at hSw); go_simp; (try with_reducible rfl))
        simp only [List.getElem_toArray, List.getElem_cons_succ, List.getElem_cons_zero, Act.put, List.setIfInBounds_toArray, List.set_cons_zero, List.set_cons_succ]
        refine wpAnyH_ready (rs := [13]) (by kernel_rfl) (by simp) (AllReadyH.cons rfl (fun K hK => ?_) AllReadyH.nil)
        refine step_st m none (by rfl) (by rfl) (.tmp 4) (.tmp 20) (by rfl) (by rfl) (by rfl) HA.out ?_
        refine hK.out _ _ trivial (fun hHeld => ?_)
        clear hK K
        simp only [List.getElem_toArray, List.getElem_cons_succ, List.getElem_cons_zero, Act.put, List.setIfInBounds_toArray, List.set_cons_zero, List.set_cons_succ]
        refine wpAnyH_done (by kernel_rfl) ?_ _
        refine NoPanic.normal ?_
        go_wp2_with fail
        go_meet
        exact ⟨_, rfl, HT.out⟩
    · skip
      refine step_al (some 4) (by rfl) (by rfl) (by rfl) ?_
      refine hK.out _ _ trivial (fun hHeld => ?_)
      clear hK K
      simp only [List.getElem_toArray, List.getElem_cons_succ, List.getElem_cons_zero, Act.put, List.setIfInBounds_toArray, List.set_cons_zero, List.set_cons_succ]
      refine wpAnyH_ready (rs := [1]) (by kernel_rfl) (by simp) (AllReadyH.cons rfl (fun K hK => ?_) AllReadyH.nil)
      refine step_fnW (by rfl) (.func 43) [.tmp 9, .const (.int .i64 1)] _ rfl 43 [] (by simp [Act.eval]) _ Try.func43 (by kernel_rfl) (by kernel_rfl) (K1.out _) (by simp [Act.eval]) ?_
      rintro e w2 ⟨rfl, rfl⟩
      refine ⟨_, rfl, ?_⟩
      refine hK.out _ _ trivial (fun hHeld => ?_)
      clear hK K
      simp only [List.getElem_toArray, List.getElem_cons_succ, List.getElem_cons_zero, Act.put, List.setIfInBounds_toArray, List.set_cons_zero, List.set_cons_succ]
      refine wpAnyH_ready (rs := [3]) (by kernel_rfl) (by simp) (AllReadyH.cons rfl (fun K hK => ?_) AllReadyH.nil)
      refine step_fnW (by rfl) (.func 43) [.tmp 11, .const (.int .i64 9)] _ rfl 43 [] (by simp [Act.eval]) _ Try.func43 (by kernel_rfl) (by kernel_rfl) (K2.out _) (by simp [Act.eval]) ?_
      rintro e w2 ⟨rfl, rfl⟩
      refine ⟨_, rfl, ?_⟩
      refine hK.out _ _ trivial (fun hHeld => ?_)
      clear hK K
      simp only [List.getElem_toArray, List.getElem_cons_succ, List.getElem_cons_zero, Act.put, List.setIfInBounds_toArray, List.set_cons_zero, List.set_cons_succ]
      refine wpAnyH_ready (rs := [5]) (by kernel_rfl) (by simp) (AllReadyH.cons rfl (fun K hK => ?_) AllReadyH.nil)
      refine step_fnW (by rfl) (.func 43) [.tmp 13, .const (.int .i64 17)] _ rfl 43 [] (by simp [Act.eval]) _ Try.func43 (by kernel_rfl) (by kernel_rfl) (K3.out _) (by simp [Act.eval]) ?_
      rintro e w2 ⟨rfl, rfl⟩
      refine ⟨_, rfl, ?_⟩
      refine hK.out _ _ trivial (fun hHeld => ?_)
      clear hK K
      simp only [List.getElem_toArray, List.getElem_cons_succ, List.getElem_cons_zero, Act.put, List.setIfInBounds_toArray, List.set_cons_zero, List.set_cons_succ]
      refine wpAnyH_ready (rs := [7]) (by kernel_rfl) (by simp) (AllReadyH.cons rfl (fun K hK => ?_) AllReadyH.nil)
      refine step_fnW (by rfl) (.func 43) [.tmp 15, .const (.int .i64 25)] _ rfl 43 [] (by simp [Act.eval]) _ Try.func43 (by kernel_rfl) (by kernel_rfl) (K4.out _) (by simp [Act.eval]) ?_
      rintro e w2 ⟨rfl, rfl⟩
      refine ⟨_, rfl, ?_⟩
      refine hK.out _ _ trivial (fun hHeld => ?_)
      clear hK K
      simp only [List.getElem_toArray, List.getElem_cons_succ, List.getElem_cons_zero, Act.put, List.setIfInBounds_toArray, List.set_cons_zero, List.set_cons_succ]
      refine wpAnyH_take (i := 11) (v := ?_) rfl (by kernel_rfl) (by kernel_rfl) (by kernel_rfl) (fun _ _ _ h => h) (Or.inl ⟨by rfl, ?_⟩) hHeld ?_
      rotate_left
      · (intro w hSw; (try dsimp only at hSw); go_simp; (try with_reducible rfl))
      simp only [List.getElem_toArray, List.getElem_cons_succ, List.getElem_cons_zero, Act.put, List.setIfInBounds_toArray, List.set_cons_zero, List.set_cons_succ]
      refine wpAnyH_ready (rs := [13]) (by kernel_rfl) (by simp) (AllReadyH.cons rfl (fun K hK => ?_) AllReadyH.nil)
      refine step_st m none (by rfl) (by rfl) (.tmp 4) (.tmp 20) (by rfl) (by rfl) (by rfl) HA.out ?_
      refine hK.out _ _ trivial (fun hHeld => ?_)
      clear hK K
      simp only [List.getElem_toArray, List.getElem_cons_succ, List.getElem_cons_zero, Act.put, List.setIfInBounds_toArray, List.set_cons_zero, List.set_cons_succ]
      refine wpAnyH_done (by kernel_rfl) ?_ _
      refine NoPanic.normal ?_
      go_wp2_with fail
      go_meet
      exact ⟨_, rfl, HT.out⟩
    -- behind it
  case rest =>
    obtain ⟨g, rfl, T2'⟩ := hcut
    have T2 := Lib.hid T2'
    clear T2' T1 HA HT T0 K1 K2 K3 K4 hcl h33i e1
    obtain ⟨a0, a1, a2, a3, a4⟩ := T2.out.b.five
    go_wp2_with fail
    refine (KE.out _).mono ?_
    rintro e w2 ⟨rfl, b2⟩
    have T3 := Lib.hid (T2.out.later b2)
    clear b2 T2 KE a0 a1 a2 a3 a4
    cases hy : (t.toList == s.toList) with
    | false =>
      have hb : b = false := by rw [HI.out, hy]
      have HB := Lib.hid T3.out.a.box
      have HL := Lib.hid T3.out.a.below
      have HX := Lib.hid hb
      clear T3 HI hb
      go_wp2_with (refine wpList_store_row rfl 40 _ _ rfl w.heap.size (msC Ms.zero) rfl rfl 40 (msC Ms.zero) HB.out info_ms rfl (ms_one _) ?_)
      exact bodyPost_ret (v := .tuple #[msV Ms.zero, .int .i64 7]) (results_two Try.results18 _ _ w.heap.size (msC Ms.zero) 7 rfl rfl (setRow_heap _ _ _ _ _ _ HB.out) Try.underlying40 info_ms) rfl (HP.out Ms.zero 7 _ (E2.out HX.out) (below_setRow HL.out (Nat.le_refl _) _))
    | true =>
      have hb : b = true := by rw [HI.out, hy]
      obtain ⟨a0, a1, a2, a3, a4⟩ := T3.out.b.five
      have HB := Lib.hid T3.out.a.box
      have HL := Lib.hid T3.out.a.below
      have HX := Lib.hid hb
      clear T3 HI hb
      go_wp2_with (refine wpList_store_row rfl 40 _ _ rfl w.heap.size (msC m) rfl rfl 40 (msC Ms.zero) HB.out info_ms rfl (ms_one _) ?_)
      exact bodyPost_ret (v := .tuple #[msV m, .int .i64 0]) (results_two Try.results18 _ _ w.heap.size (msC m) 0 rfl rfl (setRow_heap _ _ _ _ _ _ HB.out) Try.underlying40 info_ms) rfl (HP.out m 0 _ (E1.out HX.out) (below_setRow HL.out (Nat.le_refl _) _))

theorem rdecode_any (s : ByteArray) (w : World) : Calls Try.prog 18 #[.string s] w (DecP s w) := by
  by_cases h : s.size = 128
  · exact rdecode_yes s w h
  · exact rdecode_no s w h

end Go.Proofs.Ytfcibccipkokoaa.Mas
