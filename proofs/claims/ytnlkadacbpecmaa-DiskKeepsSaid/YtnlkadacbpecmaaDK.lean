/- The walk of DiskPicks. -/
import Derived.Test.YtnlkadacbpecmaaDO
namespace Go.Proofs.Ytnlkadacbpecmaa.Disk
open Go.RowKit

def kOf (k : Int) : Nat := ((k.tmod 4 + 4).tmod 4).toNat
theorem tmod4 (k : Int) : -4 < k.tmod 4 ∧ k.tmod 4 < 4 := ⟨Int.lt_tmod_of_pos k (by omega), Int.tmod_lt_of_pos k (by omega)⟩
theorem kOf_lt (k : Int) : kOf k < 4 := by unfold kOf; have := Int.tmod_lt_of_pos (k.tmod 4 + 4) (show (0 : Int) < 4 by omega); omega
theorem kOf_eq (k : Int) : ((k.tmod 4 + 4).tmod 4) = (kOf k : Int) := by unfold kOf; have h := tmod4 k; have := Int.tmod_nonneg 4 (show 0 ≤ k.tmod 4 + 4 by omega); omega
theorem slot_k (k : Int) (h1 : -9223372036854775808 ≤ k) (h2 : k ≤ 9223372036854775807) : ((wrap64 (k.tmod 4 + 4)).tmod 4) = (kOf k : Int) := by
  rw [← kOf_eq]
  have h := tmod4 k
  unfold wrap64
  congr 1
  omega
/-- the writes of calls -/
def ws (l : List Cl) : List (Nat × List UInt8) := l.map fun c => (kOf c.k, fullL c.c)
theorem ws_len (l : List Cl) : (ws l).length = l.length := by simp [ws]
theorem ws_at (l : List Cl) (k : Nat) (h : k < l.length) : (ws l)[k]? = some (kOf l[k].k, fullL l[k].c) := by simp [ws, h]
theorem ws_take (l : List Cl) (k : Nat) (h : k < l.length) : (ws l).take (k + 1) = (ws l).take k ++ [(kOf l[k].k, fullL l[k].c)] := by
  rw [List.take_succ_eq_append_getElem (by rw [ws_len]; exact h)]
  congr 2
  simp [ws]
def S0 : List (List UInt8) := List.replicate 4 (fullL 0)
theorem S0_len : S0.length = 4 := rfl

/-- so many truths are set -/
def allC (n k : Nat) : Array Value := (List.replicate k (Value.bool true) ++ List.replicate (n - k) (Value.bool false)).toArray
theorem allC_get {n k : Nat} (h : k < n) : (allC n k)[k]? = some (.bool false) := by
  unfold allC
  rw [List.getElem?_toArray, List.getElem?_append_right (by rw [List.length_replicate]; omega), List.length_replicate, List.getElem?_replicate, if_pos (by omega)]
theorem allC_set {n k : Nat} (h : k < n) : (allC n k).setIfInBounds k (.bool true) = allC n (k + 1) := by
  apply Array.toList_inj.1
  rw [Array.toList_setIfInBounds]
  unfold allC
  have e1 : n - k = (n - (k + 1)) + 1 := by omega
  rw [e1, List.replicate_succ, List.toList_toArray, List.toList_toArray, List.set_append_right _ _ (by rw [List.length_replicate]; omega), List.length_replicate, Nat.sub_self, List.set_cons_zero, List.replicate_succ', List.append_assoc, List.singleton_append]
theorem allC_zero (n : Nat) : madeCells #[Value.bool false] n = allC n 0 := by
  apply Array.toList_inj.1
  rw [toList_madeCells_one]
  rfl
theorem allC_bools {w : World} {g n : Nat} (h : w.heap[g]? = some (.cells (allC n n) 4 (0, 0))) : Bools w (.slice (some ⟨g, 0, none⟩) n n) (List.replicate n true) := by
  refine ⟨some ⟨g, 0, none⟩, n, by simp, fun j b hj => ⟨g, 0, rfl, ?_⟩⟩
  rw [Nat.zero_add, cell_of_row _ _ _ _ _ _ h]
  obtain ⟨hj1, rfl⟩ := List.getElem?_eq_some_iff.1 hj
  simp at hj1
  simp [allC, hj1]
theorem kept_all : ∀ (l : List (Nat × List UInt8)), kept l (List.replicate l.length true) = l
  | [] => rfl
  | x :: r => by
    rw [List.length_cons, List.replicate_succ]
    simp only [kept, if_true]
    rw [kept_all r]
theorem kept_none (l : List (Nat × List UInt8)) : kept l [] = [] := by cases l <;> rfl

theorem full_b (c : UInt8) (w : World) : Calls Try.prog 16 #[.int .u8 (c.toNat : Int)] w fun e w' => e = .returned (.string (fullB c)) ∧ Below w.heap.size w w' := full_any c w
/-- what stands while the calls are played -/
def PickS (w1 : World) (g p q1 q2 : Nat) (l : List Cl) (keep : List Bool) (k : Nat) (wr : World) : Prop :=
  Own w1 wr (fun b => b = g) [(p, ⟨S0, (ws l).take k, -1⟩), (q1, ⟨S0, [], -1⟩), (q2, ⟨S0, kept ((ws l).take k) keep, -1⟩)] ∧ wr.heap[g]? = some (.cells (allC l.length k) 4 (0, 0))

theorem kept_len : ∀ (l : List (Nat × List UInt8)) (keep : List Bool), (kept l keep).length ≤ l.length
  | [], _ => by simp [kept]
  | _ :: _, [] => by simp [kept]
  | x :: r, b :: bs => by
    have := kept_len r bs
    simp only [kept]
    split <;> simp <;> omega

set_option maxRecDepth 100000 in
set_option maxHeartbeats 8000000 in
theorem picks_walk {w : World} {v kv : Value} {l : List Cl} {keep : List Bool} (hc : IsCalls w v l) (hl : l.length ≤ 140737488351232) (hk : Bools w kv keep) (hkl : keep.length ≤ 140737488351232) :
    Calls Try.prog 5 #[v, kv] w fun e w' => e = .returned (.bool true) ∧ Below w.heap.size w w' := by
  have al := alive_any
  have hv := heavy_any hc hl
  have HC := Lib.hid hc
  have HK := Lib.hid hk
  obtain ⟨va, vc, rfl, _⟩ := hc
  obtain ⟨ka, kc, rfl, _⟩ := hk
  go_enter Try.func5, Try.ntmps5
  go_wp2_with fail
  refine hv.mono ?_
  rintro e w1 ⟨b, rfl, hb, n, hw⟩
  have B1 := Lib.hid (show Below w.heap.size w w1 from by rw [hw]; exact ⟨rfl, rfl, rfl, Nat.le_refl _, fun _ _ => rfl⟩)
  clear hw hv
  cases b
  case true =>
    go_wp2_with fail
    refine (al _).mono ?_
    rintro e w2 ⟨rfl, b2⟩
    have H2 := Lib.hid (B1.out.trans (b2.mono B1.out.size))
    clear b2 B1
    go_wp2_with fail
    go_ret
    exact ⟨rfl, H2.out⟩
  case false =>
  obtain ⟨hl100, hw8⟩ := hb rfl
  clear hb
  by_cases h200 : 200 < keep.length
  · have e1 : decide ((200 : Int) < (keep.length : Int)) = true := decide_eq_true (by omega)
    clear h200
    go_wp2_with fail
    refine (al _).mono ?_
    rintro e w2 ⟨rfl, b2⟩
    have H2 := Lib.hid (B1.out.trans (b2.mono B1.out.size))
    clear b2 B1
    go_wp2_with fail
    go_ret
    exact ⟨rfl, H2.out⟩
  have e1 : decide ((200 : Int) < (keep.length : Int)) = false := decide_eq_false (by omega)
  have n0 : Calls Try.prog 9 #[.int .i64 4] w1 _ := new_any 4 w1 (by omega) (by omega)
  go_wp2_with fail
  refine n0.mono ?_
  rintro e w2 ⟨rfl, h2⟩
  have O2 := Lib.hid (show Own w1 w2 (fun _ => False) [(w1.heap.size + 1, ⟨S0, [], -1⟩)] from ((Own.start w1).add h2).1)
  generalize w1.heap.size + 1 = p at *
  clear n0 h2
  -- none
  obtain ⟨F, r, _, _⟩ := O2.out.call (i := 0) rfl
  have c3 := Lib.hid (copy_any r (by decide))
  clear r
  go_wp2_with fail
  refine c3.out.mono ?_
  rintro e w3 ⟨q1, rfl, h3⟩
  have O3 := Lib.hid (show Own w1 w3 (fun _ => False) [(p, ⟨S0, [], -1⟩), (q1, ⟨S0, [], -1⟩)] from (O2.out.add h3).1)
  clear c3 h3 O2
  -- some
  obtain ⟨F, r, _, _⟩ := O3.out.call (i := 0) rfl
  have c4 := Lib.hid (copy_any r (by decide))
  clear r
  go_wp2_with fail
  refine c4.out.mono ?_
  rintro e w4 ⟨q2, rfl, h4⟩
  have O4 := Lib.hid (show Own w1 w4 (fun _ => False) [(p, ⟨S0, [], -1⟩), (q1, ⟨S0, [], -1⟩), (q2, ⟨S0, [], -1⟩)] from (O3.out.add h4).1)
  clear c4 h4 O3
  -- all
  obtain ⟨ib, hib, hz, hs, hby⟩ := info_parts (show (Try.prog.info? 4).map (fun i => (i.zero, i.size, i.bytes)) = some (some (.bool false), 1, 1) by kernel_rfl)
  have hmk := run_make (P := Try.prog) w4 38 4 ib _ Try.underlying38 hib hz .i64 .i64 (l.length : Int) (l.length : Int) (by omega) (by omega) (by rw [hby]; omega) (by omega)
  have hzc : madeCells (Value.bool false).cells (Int.toNat (l.length : Int) * ib.size) = allC l.length 0 := by rw [hs, Int.toNat_natCast, Nat.mul_one]; exact allC_zero _
  rw [hzc, Int.toNat_natCast] at hmk
  have P0 := Lib.hid (show PickS w1 w4.heap.size p q1 q2 l keep 0 (w4.alloc (.cells (allC l.length 0) 4)) from ⟨O4.out.laterE ((Below.refl _ _).alloc (Nat.le_refl _) _) (fun x hx => .inr ⟨by omega, by simp; omega⟩), heap_alloc_new _ _⟩)
  clear O4 hzc hs hby hz hib
  go_wp2_with fail
  clear hmk
  generalize w4.heap.size = g at *
  generalize w4.alloc (.cells (allC l.length 0) 4) = w5 at *
  go_loopw [10] (fun i wr => ∃ k : Nat, k ≤ l.length ∧ i = .int .i64 k ∧ PickS w1 g p q1 q2 l keep k wr) (fun i _ => l.length - (intOf i).toNat)
  case atStart => exact ⟨0, by omega, by go_num, P0.out⟩
  case round =>
    obtain ⟨k, hk, rfl, hp⟩ := hrel
    clear P0
    by_cases hlt : k < l.length
    · have HP := Lib.hid hp
      clear hp
      obtain ⟨x, o, cap', hv, hcl⟩ := (HC.out.later (B1.out.trans (HP.out.1.below.mono B1.out.size))).at hlt
      simp at hv
      obtain ⟨rfl, rfl⟩ := hv
      have c1 := hcl.c1
      have c2 := hcl.c2
      have kr := hcl.k
      have hlp : l[k]? = some l[k] := List.getElem?_eq_getElem hlt
      have hwt := Lib.hid (ws_take l k hlt)
      have hwa := Lib.hid (ws_at l k hlt)
      obtain ⟨K, hK⟩ : ∃ K, K = l[k].k := ⟨_, rfl⟩
      obtain ⟨C, hC⟩ : ∃ C, C = l[k].c := ⟨_, rfl⟩
      rw [← hK] at c1 kr hwt hwa
      rw [← hC] at c2 hwt hwa
      have KE := Lib.hid (slot_k K kr.1 kr.2)
      have kl := kOf_lt K
      have HCE := Lib.hid hC
      clear hK hC hcl kr hlp
      go_wp2_with fail
      rw [KE.out]
      refine (full_b C _).mono ?_
      rintro e wa ⟨rfl, ba⟩
      have PA := Lib.hid (HP.out.1.later ba)
      have GA := Lib.hid ((ba.block g (HP.out.1.ext g rfl).1).trans HP.out.2)
      obtain ⟨F, r, hE, hnext⟩ := PA.out.call (i := 0) rfl
      have hloose : (((ws l).take k).length) ≤ 1000000000 := by rw [List.length_take, ws_len]; omega
      have cw := Lib.hid (write_any r (by show (-1 : Int) ≠ 0; decide) (k := kOf K) (by show kOf K < 4; exact kl) (fullB C) (fullB_size C) hloose)
      have NX := Lib.hid hnext
      clear r hE hnext hloose ba
      go_wp2_with fail
      refine cw.out.mono ?_
      rintro e wb ⟨rfl, hb⟩
      have hnb := NX.out _ _ hb
      have OB : Own w1 wb (fun b => b = g) [(p, ⟨S0, (ws l).take (k + 1), -1⟩), (q1, ⟨S0, [], -1⟩), (q2, ⟨S0, kept ((ws l).take k) keep, -1⟩)] := by
        rw [hwt.out]; exact hnb.1
      have gb : wb.heap[g]? = some (.cells (allC l.length k) 4 (0, 0)) := (hnb.2 g rfl).trans GA.out
      have k1 : wb.cell? ⟨g, k, none⟩ = some (.bool false) := by rw [cell_of_row _ _ _ _ _ _ gb]; exact allC_get hlt
      have k2 := frozen_of_row wb g k _ _ gb
      have gc := heap_setCell_same wb g k _ _ (.bool true) gb
      rw [allC_set hlt] at gc
      have OC := Lib.hid (OB.setE (x := ⟨g, k, none⟩) rfl (.bool true))
      have GC := Lib.hid gc
      have hK2 := (HK.out.later (B1.out.trans (OC.out.below.mono B1.out.size)))
      have hkt := kept_take k (ws l) keep _ hwa.out
      have b0 : (k : Int) < (l.length : Int) := by omega
      clear hnb OB gb gc hb cw NX PA GA HP c1 c2
      by_cases hin : k < keep.length
      · have hkb : keep[k]? = some keep[k] := List.getElem?_eq_getElem hin
        obtain ⟨ka', kc', hv, hcell⟩ := hK2
        obtain ⟨y, z, rfl, hcl0⟩ := hcell k _ hkb
        simp at hv
        obtain ⟨rfl, rfl⟩ := hv
        clear hcell
        rw [hkb] at hkt
        have g1 : decide (k < keep.length) = true := decide_eq_true hin
        cases hbt : keep[k] with
        | true =>
          rw [hbt] at hcl0 hkt
          rw [if_pos rfl] at hkt
          have HKT := Lib.hid hkt
          have hcl := ((HC.out.later (B1.out.trans (OC.out.below.mono B1.out.size))).at hlt)
          obtain ⟨x', o', cap', hv, hcl⟩ := hcl
          simp at hv
          obtain ⟨⟨rfl, rfl⟩, rfl⟩ := hv
          have c2 := hcl.c2
          obtain ⟨C', hC⟩ : ∃ C', C' = l[k].c := ⟨_, rfl⟩
          rw [← hC] at c2
          have hCC : C' = C := by rw [hC, HCE.out]
          clear hkt hkb hbt hcl hC HCE
          subst hCC
          go_wp2_with fail
          refine (full_b C' _).mono ?_
          rintro e wd ⟨rfl, bd⟩
          have OD := Lib.hid (OC.out.later bd)
          have GD := Lib.hid ((bd.block g (OC.out.ext g rfl).1).trans GC.out)
          obtain ⟨F, r, hE, hnext⟩ := OD.out.call (i := 2) rfl
          have hloose : (kept ((ws l).take k) keep).length ≤ 1000000000 := by
            have := kept_len ((ws l).take k) keep
            rw [List.length_take, ws_len] at this
            omega
          have cw := Lib.hid (write_any r (by show (-1 : Int) ≠ 0; decide) (k := kOf K) (by show kOf K < 4; exact kl) (fullB C') (fullB_size C') hloose)
          have NX := Lib.hid hnext
          clear r hE hnext hloose bd OC GC
          go_wp2_with fail
          refine cw.out.mono ?_
          rintro e we ⟨rfl, he⟩
          have hne := NX.out _ _ he
          have PE := Lib.hid (show PickS w1 g p q1 q2 l keep (k + 1) we from ⟨by rw [HKT.out]; exact hne.1, (hne.2 g rfl).trans GD.out⟩)
          clear hne he cw NX GD OD HKT
          go_wp2_with fail
          go_roundw
          case rel => exact ⟨k + 1, by omega, by go_num, PE.out⟩
          case measure => simp [intOf]; omega
        | false =>
          rw [hbt] at hcl0 hkt
          rw [if_neg (by simp)] at hkt
          have PE := Lib.hid (show PickS w1 g p q1 q2 l keep (k + 1) (wb.setCell ⟨g, k, none⟩ (.bool true)) from ⟨by rw [hkt]; exact OC.out, GC.out⟩)
          clear hkt hkb hbt OC GC
          go_wp2_with fail
          go_roundw
          case rel => exact ⟨k + 1, by omega, by go_num, PE.out⟩
          case measure => simp [intOf]; omega
      · have g1 : decide (k < keep.length) = false := decide_eq_false hin
        have hkb : keep[k]? = none := List.getElem?_eq_none (by omega)
        rw [hkb, if_neg (by simp)] at hkt
        have PE := Lib.hid (show PickS w1 g p q1 q2 l keep (k + 1) (wb.setCell ⟨g, k, none⟩ (.bool true)) from ⟨by rw [hkt]; exact OC.out, GC.out⟩)
        clear hkt hkb OC GC hK2
        go_wp2_with fail
        go_roundw
        case rel => exact ⟨k + 1, by omega, by go_num, PE.out⟩
        case measure => simp [intOf]; omega
    · obtain rfl : k = l.length := by omega
      obtain ⟨hO, hG⟩ := hp
      rw [← ws_len, List.take_length] at hO
      have HO := Lib.hid hO
      have HG := Lib.hid hG
      clear hO hG
      have hloose : (ws l).length ≤ 1000000000 := by rw [ws_len]; omega
      have hkeepl : (kept (ws l) keep).length ≤ 1000000000 := by have := kept_len (ws l) keep; omega
      -- three copies
      obtain ⟨F, r, _, _⟩ := HO.out.call (i := 0) rfl
      have c1 := Lib.hid (copy_any r hloose)
      clear r
      go_wp2_with fail
      refine c1.out.mono ?_
      rintro e x1 ⟨a1, rfl, h1⟩
      obtain ⟨o1, t1⟩ := HO.out.add h1
      have O1 := Lib.hid (show Own w1 x1 (fun b => b = g) [(p, ⟨S0, ws l, -1⟩), (q1, ⟨S0, [], -1⟩), (q2, ⟨S0, kept (ws l) keep, -1⟩), (a1, ⟨S0, ws l, -1⟩)] from o1)
      have G1 := Lib.hid ((t1 g rfl).trans HG.out)
      clear c1 h1 o1 t1 HO HG
      obtain ⟨F, r, _, _⟩ := O1.out.call (i := 0) rfl
      have c1 := Lib.hid (copy_any r hloose)
      clear r
      go_wp2_with fail
      refine c1.out.mono ?_
      rintro e x2 ⟨a2, rfl, h1⟩
      obtain ⟨o1, t1⟩ := O1.out.add h1
      have O2 := Lib.hid (show Own w1 x2 (fun b => b = g) [(p, ⟨S0, ws l, -1⟩), (q1, ⟨S0, [], -1⟩), (q2, ⟨S0, kept (ws l) keep, -1⟩), (a1, ⟨S0, ws l, -1⟩), (a2, ⟨S0, ws l, -1⟩)] from o1)
      have G2 := Lib.hid ((t1 g rfl).trans G1.out)
      clear c1 h1 o1 t1 O1 G1
      obtain ⟨F, r, _, _⟩ := O2.out.call (i := 0) rfl
      have c1 := Lib.hid (copy_any r hloose)
      clear r
      go_wp2_with fail
      refine c1.out.mono ?_
      rintro e x3 ⟨a3, rfl, h1⟩
      obtain ⟨o1, t1⟩ := O2.out.add h1
      have O3 := Lib.hid (show Own w1 x3 (fun b => b = g) [(p, ⟨S0, ws l, -1⟩), (q1, ⟨S0, [], -1⟩), (q2, ⟨S0, kept (ws l) keep, -1⟩), (a1, ⟨S0, ws l, -1⟩), (a2, ⟨S0, ws l, -1⟩), (a3, ⟨S0, ws l, -1⟩)] from o1)
      have G3 := Lib.hid ((t1 g rfl).trans G2.out)
      clear c1 h1 o1 t1 O2 G2
      -- the truths are copied
      have hK3 := HK.out.later (B1.out.trans (O3.out.below.mono B1.out.size))
      obtain ⟨v', x4, hr4, hB4, hb4, hf4⟩ := copy_bools hK3 hkl 38
      have HR4 := Lib.hid hr4
      have HB4 := Lib.hid hB4
      have HF4 := Lib.hid hf4
      have O4 := Lib.hid (O3.out.laterE (E' := fun b => b = g ∨ v'.ownBlock = some b) hb4 (fun y hy => by
        rcases hy with hy | hy
        · exact .inl hy
        · exact .inr (hf4 y hy)))
      have G4 := Lib.hid ((hb4.block g (O3.out.ext g rfl).1).trans G3.out)
      clear hr4 hB4 hb4 hf4 hK3 O3 G3
      go_wp2_with (at_builtin; refine wpList_append_run rfl _ _ _ rfl 38 rfl _ _ v' x4 rfl rfl HR4.out ?_)
      obtain ⟨F, r, hE, hnext⟩ := O4.out.call (i := 3) rfl
      have c1 := Lib.hid (crash_any r (by show (ws l).length ≤ _; omega) HB4.out (by omega) (fun b hb => hE b (.inr hb)))
      have NX := Lib.hid hnext
      clear r hE hnext HR4
      go_wp2_with fail
      refine c1.out.mono ?_
      rintro e x5 ⟨rfl, h5⟩
      obtain ⟨o5, t5⟩ := NX.out _ _ (Rep.g0 h5)
      have O5 := Lib.hid (show Own w1 x5 (fun b => b = g ∨ v'.ownBlock = some b) [(p, ⟨S0, ws l, -1⟩), (q1, ⟨S0, [], -1⟩), (q2, ⟨S0, kept (ws l) keep, -1⟩), (a1, ⟨settleAll S0 (kept (ws l) keep), [], -1⟩), (a2, ⟨S0, ws l, -1⟩), (a3, ⟨S0, ws l, -1⟩)] from o5)
      have G5 := Lib.hid ((t5 g (.inl rfl)).trans G4.out)
      clear c1 NX h5 o5 t5 O4 G4 HB4 HF4
      obtain ⟨F, r, hE, hnext⟩ := O5.out.call (i := 4) rfl
      have c1 := Lib.hid (crash_any r (by show (ws l).length ≤ _; omega) (allC_bools G5.out) (by rw [List.length_replicate]; omega) (fun b hb => hE b (.inl (by simp [Value.ownBlock] at hb; exact hb.symm))))
      have NX := Lib.hid hnext
      clear r hE hnext
      go_wp2_with fail
      refine c1.out.mono ?_
      rintro e x6 ⟨rfl, h6⟩
      have ka2 : kept (ws l) (List.replicate l.length true) = ws l := by rw [← ws_len l]; exact kept_all _
      have O6 := Lib.hid (show Own w1 x6 (fun b => b = g ∨ v'.ownBlock = some b) [(p, ⟨S0, ws l, -1⟩), (q1, ⟨S0, [], -1⟩), (q2, ⟨S0, kept (ws l) keep, -1⟩), (a1, ⟨settleAll S0 (kept (ws l) keep), [], -1⟩), (a2, ⟨settleAll S0 (ws l), [], -1⟩), (a3, ⟨S0, ws l, -1⟩)] from by
        have := (NX.out _ _ (Rep.g0 h6)).1
        unfold D.crash at this
        simp only [ka2] at this
        exact this)
      clear c1 NX h6 O5 G5 ka2
      obtain ⟨F, r, hE, hnext⟩ := O6.out.call (i := 5) rfl
      have c1 := Lib.hid (crash_any r (by show (ws l).length ≤ _; omega) (kv := .slice none 0 0) (keep := []) ⟨none, 0, rfl, by simp⟩ (by simp) (fun b hb => by simp [Value.ownBlock] at hb))
      have NX := Lib.hid hnext
      clear r hE hnext
      go_wp2_with fail
      refine c1.out.mono ?_
      rintro e x7 ⟨rfl, h7⟩
      have O7 := Lib.hid (show Own w1 x7 (fun b => b = g ∨ v'.ownBlock = some b) [(p, ⟨S0, ws l, -1⟩), (q1, ⟨S0, [], -1⟩), (q2, ⟨S0, kept (ws l) keep, -1⟩), (a1, ⟨settleAll S0 (kept (ws l) keep), [], -1⟩), (a2, ⟨settleAll S0 (ws l), [], -1⟩), (a3, ⟨S0, [], -1⟩)] from by
        have := (NX.out _ _ (Rep.g0 h7)).1
        unfold D.crash at this
        simp only [kept_none] at this
        exact this)
      clear c1 NX h7 O6
      obtain ⟨F, r, hE, hnext⟩ := O7.out.call (i := 2) rfl
      have c1 := Lib.hid (sync_any r (by show (-1 : Int) ≠ 0; decide) (by show (kept (ws l) keep).length ≤ _; omega))
      have NX := Lib.hid hnext
      clear r hE hnext
      go_wp2_with fail
      refine c1.out.mono ?_
      rintro e x8 ⟨rfl, h8⟩
      have O8 := Lib.hid (show Own w1 x8 (fun b => b = g ∨ v'.ownBlock = some b) [(p, ⟨S0, ws l, -1⟩), (q1, ⟨S0, [], -1⟩), (q2, ⟨settleAll S0 (kept (ws l) keep), [], -1⟩), (a1, ⟨settleAll S0 (kept (ws l) keep), [], -1⟩), (a2, ⟨settleAll S0 (ws l), [], -1⟩), (a3, ⟨S0, [], -1⟩)] from (NX.out _ _ (Rep.g0 h8)).1)
      clear c1 NX h8 O7
      obtain ⟨F, r, hE, hnext⟩ := O8.out.call (i := 0) rfl
      have c1 := Lib.hid (sync_any r (by show (-1 : Int) ≠ 0; decide) (by show (ws l).length ≤ _; omega))
      have NX := Lib.hid hnext
      clear r hE hnext
      go_wp2_with fail
      refine c1.out.mono ?_
      rintro e x9 ⟨rfl, h9⟩
      have O9 := Lib.hid (show Own w1 x9 (fun b => b = g ∨ v'.ownBlock = some b) [(p, ⟨settleAll S0 (ws l), [], -1⟩), (q1, ⟨S0, [], -1⟩), (q2, ⟨settleAll S0 (kept (ws l) keep), [], -1⟩), (a1, ⟨settleAll S0 (kept (ws l) keep), [], -1⟩), (a2, ⟨settleAll S0 (ws l), [], -1⟩), (a3, ⟨S0, [], -1⟩)] from (NX.out _ _ (Rep.g0 h9)).1)
      clear c1 NX h9 O8
      -- the sure bytes
      obtain ⟨TA, hTA⟩ : ∃ TA : ByteArray, TA = ⟨(settleAll S0 (kept (ws l) keep)).flatten.toArray⟩ := ⟨_, rfl⟩
      obtain ⟨TB, hTB⟩ : ∃ TB : ByteArray, TB = ⟨(settleAll S0 (ws l)).flatten.toArray⟩ := ⟨_, rfl⟩
      obtain ⟨TC, hTC⟩ : ∃ TC : ByteArray, TC = ⟨S0.flatten.toArray⟩ := ⟨_, rfl⟩
      have su : ∀ (i q : Nat) (d : D) (x : World), Own w1 x (fun b => b = g ∨ v'.ownBlock = some b) [(p, ⟨settleAll S0 (ws l), [], -1⟩), (q1, ⟨S0, [], -1⟩), (q2, ⟨settleAll S0 (kept (ws l) keep), [], -1⟩), (a1, ⟨settleAll S0 (kept (ws l) keep), [], -1⟩), (a2, ⟨settleAll S0 (ws l), [], -1⟩), (a3, ⟨S0, [], -1⟩)] →
          [(p, (⟨settleAll S0 (ws l), [], -1⟩ : D)), (q1, ⟨S0, [], -1⟩), (q2, ⟨settleAll S0 (kept (ws l) keep), [], -1⟩), (a1, ⟨settleAll S0 (kept (ws l) keep), [], -1⟩), (a2, ⟨settleAll S0 (ws l), [], -1⟩), (a3, ⟨S0, [], -1⟩)][i]? = some (q, d) →
          Calls Try.prog 20 #[.pointer (some ⟨q, 0, none⟩)] x fun e w' => e = .returned (.string ⟨d.sure.flatten.toArray⟩) ∧ Own w1 w' (fun b => b = g ∨ v'.ownBlock = some b) [(p, ⟨settleAll S0 (ws l), [], -1⟩), (q1, ⟨S0, [], -1⟩), (q2, ⟨settleAll S0 (kept (ws l) keep), [], -1⟩), (a1, ⟨settleAll S0 (kept (ws l) keep), [], -1⟩), (a2, ⟨settleAll S0 (ws l), [], -1⟩), (a3, ⟨S0, [], -1⟩)] := by
        intro i q d x ho hi
        obtain ⟨F, r, _, _⟩ := ho.call hi
        exact (sure_any r).mono fun e w' ⟨he, ht⟩ => ⟨he, ho.later ht⟩
      have s1 := fun x h => su 3 a1 _ x h rfl
      have s2 := fun x h => su 2 q2 _ x h rfl
      have s3 := fun x h => su 4 a2 _ x h rfl
      have s4 := fun x h => su 0 p _ x h rfl
      have s5 := fun x h => su 5 a3 _ x h rfl
      have s6 := fun x h => su 1 q1 _ x h rfl
      clear su
      simp only [← hTA, ← hTB, ← hTC] at s1 s2 s3 s4 s5 s6
      generalize [(p, (⟨settleAll S0 (ws l), [], -1⟩ : D)), (q1, ⟨S0, [], -1⟩), (q2, ⟨settleAll S0 (kept (ws l) keep), [], -1⟩), (a1, ⟨settleAll S0 (kept (ws l) keep), [], -1⟩), (a2, ⟨settleAll S0 (ws l), [], -1⟩), (a3, ⟨S0, [], -1⟩)] = LL at *
      clear hTA hTB hTC
      go_wp2_with fail
      refine (s1 _ O9.out).mono ?_
      rintro e y1 ⟨rfl, h1⟩
      have Y1 := Lib.hid h1
      clear h1 O9
      go_wp2_with fail
      refine (s2 _ Y1.out).mono ?_
      rintro e y2 ⟨rfl, h1⟩
      have Y2 := Lib.hid h1
      clear h1 Y1
      go_wp2_with fail
      refine (s3 _ Y2.out).mono ?_
      rintro e y3 ⟨rfl, h1⟩
      have Y3 := Lib.hid h1
      clear h1 Y2
      go_wp2_with fail
      refine (s4 _ Y3.out).mono ?_
      rintro e y4 ⟨rfl, h1⟩
      have Y4 := Lib.hid h1
      clear h1 Y3
      go_wp2_with fail
      refine (s5 _ Y4.out).mono ?_
      rintro e y5 ⟨rfl, h1⟩
      have Y5 := Lib.hid h1
      clear h1 Y4
      go_wp2_with fail
      refine (s6 _ Y5.out).mono ?_
      rintro e y6 ⟨rfl, h1⟩
      have Y6 := Lib.hid h1
      clear h1 Y5 s1 s2 s3 s4 s5 s6
      go_wp2_with fail
      refine (al _).mono ?_
      rintro e y7 ⟨rfl, b7⟩
      have H7 := Lib.hid (B1.out.trans ((Y6.out.below.trans (b7.mono Y6.out.below.size)).mono B1.out.size))
      clear b7 Y6
      go_wp2_with fail
      go_ret
      exact ⟨rfl, H7.out⟩

end Go.Proofs.Ytnlkadacbpecmaa.Disk
