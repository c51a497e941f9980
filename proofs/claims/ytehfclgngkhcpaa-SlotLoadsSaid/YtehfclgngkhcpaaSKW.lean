/- Walks: SlotKeeps. -/
import Derived.Test.YtehfclgngkhcpaaSTX
namespace Go.Proofs.Ytehfclgngkhcpaa.Slot
open Go.RowKit
attribute [local go_sem ↓] Go.wp_at_zero Go.wp_at_succ

/-- the law's state: an area, and its texts -/
structure KS (W0 w : World) (p g c : Nat) (a : A) (v : Value) (L : List ByteArray) : Prop where
  st : St W0 w p g c a
  tx : Tx W0 w v L
  texts : L.map (fun t => t.data.toList) = a.texts
theorem KS.len {W0 w : World} {p g c : Nat} {a : A} {v : Value} {L : List ByteArray} (h : KS W0 w p g c a v L) : a.dir.length = L.length := by
  rw [← texts_len (a := a), ← h.texts, List.length_map]

/-- the block of a call that was loaded -/
structure CRow (nb : Nat) (O K : Int) (T : ByteArray) (w : World) : Prop where
  row : w.heap[nb]? = some (.cells #[.int .u8 O, .int .i64 K, .string T] 56 (0, 0))
theorem CRow.g0 {nb : Nat} {O K : Int} {T : ByteArray} {w : World} (h : CRow nb O K T w) : w.cell? ⟨nb, 0, none⟩ = some (.int .u8 O) := by rw [cell_of_row _ _ _ _ _ _ h.row]; rfl
theorem CRow.g1 {nb : Nat} {O K : Int} {T : ByteArray} {w : World} (h : CRow nb O K T w) : w.cell? ⟨nb, 1, none⟩ = some (.int .i64 K) := by rw [cell_of_row _ _ _ _ _ _ h.row]; rfl
theorem CRow.g2 {nb : Nat} {O K : Int} {T : ByteArray} {w : World} (h : CRow nb O K T w) : w.cell? ⟨nb, 2, none⟩ = some (.string T) := by rw [cell_of_row _ _ _ _ _ _ h.row]; rfl
theorem CRow.lt {nb : Nat} {O K : Int} {T : ByteArray} {w : World} (h : CRow nb O K T w) : nb < w.heap.size := (Array.getElem?_eq_some_iff.1 h.row).1
theorem CRow.touch {nb : Nat} {O K : Int} {T : ByteArray} {w w' : World} {G : Nat → Prop} (h : CRow nb O K T w) (t : Touch G w w') (hn : ¬ G nb) : CRow nb O K T w' := ⟨(t.block nb h.lt hn).trans h.row⟩
theorem CRow.later {nb : Nat} {O K : Int} {T : ByteArray} {w w' : World} (h : CRow nb O K T w) (t : Below w.heap.size w w') : CRow nb O K T w' := ⟨(t.block nb h.lt).trans h.row⟩
/-- a call's block is none of an area's -/
theorem CRow.apart {nb : Nat} {O K : Int} {T : ByteArray} {w : World} (h : CRow nb O K T w) {p g c : Nat} {a : A} (ha : Area w p g c a) : ¬ both p g nb := by
  obtain ⟨⟨b, hb, _⟩, _⟩ := ha
  rintro (rfl | rfl)
  · have := hb.head.symm.trans h.row; simp at this
  · obtain ⟨cur', m, k1, _⟩ := hb.row
    have := k1.symm.trans h.row
    simp at this
theorem KS.later {W0 w w' : World} {p g c : Nat} {a : A} {v : Value} {L : List ByteArray} (h : KS W0 w p g c a v L) (t : Below w.heap.size w w') : KS W0 w' p g c a v L := ⟨h.st.later t, h.tx.later t, h.texts⟩
/-- an area's call that leaves the texts alone -/
theorem KS.same {W0 w w' : World} {p g c : Nat} {a a' : A} {v : Value} {L : List ByteArray} (h : KS W0 w p g c a v L) (k : Area w' p g c a' ∧ Touch (both p g) w w') (e : a'.texts = a.texts) : KS W0 w' p g c a' v L :=
  ⟨h.st.op k, h.tx.touchA h.st.area k.2, by rw [e]; exact h.texts⟩
theorem KS.set {W0 w w' : World} {p g c : Nat} {a : A} {ad : Option Addr} {cap : Nat} {L : List ByteArray} (h : KS W0 w p g c a (.slice ad L.length cap) L) {i : Nat} {T : ByteArray} (hi : i < L.length) (k : Area w' p g c (setA a (i : Int) T.data.toList) ∧ Touch (both p g) w w') (e : setE a (i : Int) T.data.toList = 0) :
    ∃ y, ad = some ⟨y, 0, none⟩ ∧ w'.cell? ⟨y, i, none⟩ = some (.string (L.getD i ⟨#[]⟩)) ∧ w'.frozen? ⟨y, i, none⟩ = false ∧ KS W0 (w'.setCell ⟨y, i, none⟩ (.string T)) p g c (setA a (i : Int) T.data.toList) (.slice ad L.length cap) (L.set i T) := by
  have st := h.st.op k
  have tx := h.tx.touchA h.st.area k.2
  obtain ⟨y, h1, h2, h3, h4, h5⟩ := tx.store hi T
  refine ⟨y, h1, h2, h3, st.grown tx (by rw [h1]; exact h5), h4, ?_⟩
  · rw [(setA_texts h.st.area.ok e).1, Int.toNat_natCast, ← h.texts, List.map_set]
theorem strB_data (s : ByteArray) : strB s.data.toList = s := by
  unfold strB
  rw [Array.toArray_toList]
theorem KS.text {W0 w : World} {p g c : Nat} {a : A} {v : Value} {L : List ByteArray} (h : KS W0 w p g c a v L) {j : Nat} (hj : j < L.length) : strB (getS a (j : Int)) = L.getD j ⟨#[]⟩ ∧ hasP a (j : Int) := by
  have hl := h.len
  have hp : hasP a (j : Int) := ⟨by omega, by omega⟩
  refine ⟨?_, hp⟩
  unfold getS
  rw [if_pos hp, Int.toNat_natCast]
  have h1 := texts_at (a := a) (i := j) (by omega)
  rw [← h.texts, List.getElem?_map, List.getElem?_eq_getElem hj] at h1
  have h2 : L[j].data.toList = a.text j := by simpa using h1
  rw [← h2, strB_data, List.getD_eq_getElem?_getD, List.getElem?_eq_getElem hj]
  rfl
/-- behind the switch -/
structure KRel (w : World) (k : Nat) (s5 s7 : Value) (wx : World) : Prop where
  ex : ∃ (p g c : Nat) (a : A) (L : List ByteArray), s5 = .pointer (some ⟨p, 0, none⟩) ∧ L.length ≤ k + 1 ∧ KS w wx p g c a s7 L
theorem tmod_lo (K n : Int) (h : 0 < n) : -n < K.tmod n := by
  have h1 := Int.tmod_lt_of_pos (-K) h
  rw [Int.neg_tmod] at h1
  omega
theorem setA_no {a : A} {i : Int} {t : List UInt8} (e : setE a i t ≠ 0) : setA a i t = a := by unfold setA; rw [if_pos e]
theorem putA_no {a : A} {i : Int} {t : List UInt8} (e : putE a i t ≠ 0) : putA a i t = a := by unfold putA; rw [if_neg e]

set_option maxRecDepth 100000 in
set_option maxHeartbeats 8000000 in
theorem keeps_walk (a0 : Int) (h0 : 0 ≤ a0 ∧ a0 ≤ 65535) {v : Value} {l : List Cl} {w : World} (hc : IsCalls w v l) (hl : l.length ≤ 140737488351232) :
    Calls Try.prog 6 #[.int .u16 a0, v] w fun e w' => e = .returned (.bool true) ∧ Below w.heap.size w w' := by
  have al := Lib.hid alive_any
  have hv := heavy_any hc hl
  have HC := Lib.hid hc
  obtain ⟨ca, cap, rfl, _⟩ := hc
  obtain ⟨r, hr⟩ : ∃ r : Nat, a0 % 600 = (r : Int) := ⟨(a0 % 600).toNat, by omega⟩
  have hr2 : r < 600 := by omega
  have hr3 : (r : Int) < 600 := by omega
  have hr0 : (0 : Int) ≤ (r : Int) := Int.natCast_nonneg _
  have nw := new_any (16 + r) w (by omega) (by omega)
  rw [show ((16 + r : Nat) : Int) = 16 + (r : Int) by omega] at nw
  have NW := Lib.hid nw
  have HV := Lib.hid hv
  clear nw hv
  go_enter Try.func6, Try.ntmps6
  go_wp2_with fail
  refine HV.out.mono ?_
  rintro e w' ⟨hb, rfl, hb2, rfl⟩
  have HB2 := Lib.hid hb2
  clear hb2 HV
  cases hb
  case true =>
    go_wp2_with fail
    refine (al.out _).mono ?_
    rintro e w1 ⟨rfl, b1⟩
    have B := Lib.hid b1
    clear b1
    go_wp2_with fail
    go_ret
    exact ⟨rfl, B.out⟩
  case false =>
    obtain ⟨hl100, hwt⟩ := HB2.out rfl
    clear HB2
    go_wp2_with fail
    refine NW.out.mono ?_
    rintro e w1 ⟨rfl, h1⟩
    have S := Lib.hid (St.new h1)
    clear h1 NW
    go_wp2_with fail
    have K0 : KS w w1 (w.heap.size + 1) w.heap.size (16 + r) (A.new (16 + r)) (.slice none 0 0) [] := ⟨S.out, Tx.nil w S.out.below.size, rfl⟩
    have KK0 := Lib.hid K0
    clear K0 S hr
    go_loopw [5, 7, 8] (fun s5 s7 i wr => ∃ (k p g c : Nat) (a : A) (L : List ByteArray), k ≤ l.length ∧ i = .int .i64 k ∧ s5 = .pointer (some ⟨p, 0, none⟩) ∧ L.length ≤ k ∧ KS w wr p g c a s7 L) (fun _ _ i _ => l.length - (intOf i).toNat)
    case atStart => exact ⟨0, _, _, _, _, [], by omega, by go_num, rfl, by simp, KK0.out⟩
    case round =>
      obtain ⟨k, p, g, c, a, L, hk, rfl, rfl, hLk, hks⟩ := hrel
      clear KK0
      by_cases hlt : k < l.length
      · obtain ⟨x, o, cap', hv, hcl⟩ := HC.out.at hlt
        simp at hv
        obtain ⟨rfl, rfl⟩ := hv
        have hx := block_lt_of_cell hcl.c0
        have cl1 := hcl.far (hks.st.below.block x hx)
        have c0 := cl1.c0
        have c1 := cl1.c1
        have c2 := cl1.c2
        have o1 := cl1.op
        have k1 := cl1.k
        have s1 := cl1.s
        obtain ⟨ad, cp, rfl⟩ := hks.tx.shape
        have HKS := Lib.hid hks
        have hlen := hks.len
        have b0 : (0 : Int) ≤ (k : Int) := Int.natCast_nonneg _
        have b1 : (k : Int) < (l.length : Int) := by omega
        generalize l[k].op = O at *
        generalize l[k].k = K at *
        generalize l[k].s = T at *
        obtain ⟨n, hn⟩ : ∃ n, n = L.length := ⟨_, rfl⟩
        rw [← hn] at hlen hLk
        have HN := Lib.hid hn
        have HLEN := Lib.hid hlen
        rw [← hn]
        clear hcl cl1 hks hn hlen
        obtain ⟨q, hq⟩ : ∃ q : Nat, O % 8 = (q : Int) := ⟨(O % 8).toNat, by omega⟩
        have hq8 : q < 8 := by omega
        go_upto_region 12 with fail
        have rn : CRow wr.heap.size O K T (wr.alloc (.cells #[.int .u8 O, .int .i64 K, .string T] 56)) := ⟨heap_alloc_new _ _⟩
        have ks1 := HKS.out.later ((Below.refl _ _).alloc (Nat.le_refl _) (.cells #[.int .u8 O, .int .i64 K, .string T] 56))
        have ks2 : KS w (wr.alloc (.cells #[.int .u8 O, .int .i64 K, .string T] 56)) p g c a (.slice ad n cp) L := by rw [HN.out]; exact ks1
        have RN := Lib.hid rn
        have KS1 := Lib.hid ks2
        have g0 := rn.g0
        have g1 := rn.g1
        have g2 := rn.g2
        clear rn ks1 ks2 HKS c0 c1 c2
        generalize wr.alloc (.cells #[.int .u8 O, .int .i64 K, .string T] 56) = W at *
        generalize wr.heap.size = nb at *
        go_upto_block 2 with fail
        rw [hq]
        clear hq
        go_cut [5, 7] (fun s5 s7 wx => KRel w k s5 s7 wx)
        case first =>
          have hcs : (q = 3 ∨ q = 4) ∨ q = 5 ∨ q = 6 ∨ q = 7 ∨ q < 3 := by omega
          rcases hcs with hq1 | rfl | rfl | rfl | hq3
          · by_cases hn0 : n = 0
            · have en : ((n : Int) == 0) = true := by simp [hn0]
              have KC := Lib.hid (show ∃ (p' g' c' : Nat) (a' : A) (L' : List ByteArray), L'.length ≤ k + 1 ∧ KS w W p' g' c' a' (.slice ad n cp) L' from ⟨p, g, c, a, L, by rw [← HN.out]; omega, KS1.out⟩)
              clear hn0
              rcases hq1 with rfl | rfl
              all_goals
                go_wp2_with fail
                go_roundw
                case rel => exact ⟨k + 1, p, g, c, a, L, by omega, by go_num, rfl, by rw [← HN.out]; omega, KS1.out⟩
                case measure => simp [intOf]; omega
            · obtain ⟨Q, hQ, Q1, Q2⟩ : ∃ Q : Int, K.tmod (n : Int) = Q ∧ -(n : Int) < Q ∧ Q < (n : Int) := ⟨_, rfl, by have := tmod_lo K n (show (0 : Int) < n by omega); omega, by have := Int.tmod_lt_of_pos K (show (0 : Int) < n by omega); omega⟩
              obtain ⟨j, hj, hj', hj2⟩ : ∃ j : Nat, (Q + (n : Int)).tmod (n : Int) = (j : Int) ∧ (Q + (n : Int)) % (n : Int) = (j : Int) ∧ j < n := by
                have h1 := Int.emod_nonneg (Q + (n : Int)) (show (n : Int) ≠ 0 by omega)
                have h2 := Int.emod_lt_of_pos (Q + (n : Int)) (show (0 : Int) < n by omega)
                refine ⟨((Q + (n : Int)) % (n : Int)).toNat, ?_, ?_, ?_⟩
                · rw [Int.tmod_eq_emod_of_nonneg (by omega)]; omega
                · omega
                · omega
              have en : ((n : Int) == 0) = false := by simp [hn0]
              have en2 : (n = 0) = False := eq_false hn0
              have n1 : (n : Int) ≤ 100 := by omega
              have ps := set_is KS1.out.st.area (j : Int) T (by omega)
              have PS := Lib.hid ps
              have HJ := Lib.hid hj2
              clear ps hn0
              obtain ⟨E, hE⟩ : ∃ E, E = setE a (j : Int) T.data.toList := ⟨_, rfl⟩
              rw [← hE] at PS
              have HE := Lib.hid hE
              clear hE hj2
              rcases hq1 with rfl | rfl
              all_goals
                go_wp2_with fail
                refine PS.out.mono ?_
                rintro e w2 ⟨rfl, h2⟩
                have H2 := Lib.hid h2
                have RN2 := Lib.hid (RN.out.touch h2.2 (RN.out.apart KS1.out.st.area))
                have g2 := RN2.out.g2
                clear h2 PS g0 g1
                by_cases hE0 : E = 0
                · have e1 : (E == 0) = true := by simp [hE0]
                  obtain ⟨y, rfl, h3, h4, h5⟩ := KS.set (by rw [← HN.out]; exact KS1.out) (by rw [← HN.out]; exact HJ.out) H2.out (by rw [← HE.out]; exact hE0)
                  rw [← HN.out] at h5
                  have H5 := Lib.hid h5
                  have j1 : (j : Int) < (n : Int) := by have := HJ.out; omega
                  have hjn : j < n := HJ.out
                  clear hE0 h5 KS1 H2
                  go_wp2_with fail
                  go_meet
                  exact ⟨⟨p, g, c, _, _, rfl, by rw [List.length_set, ← HN.out]; omega, H5.out⟩⟩
                · have e1 : (E == 0) = false := by simp [hE0]
                  have H5 := Lib.hid (KS1.out.same H2.out (by rw [setA_no (by rw [← HE.out]; exact hE0)]))
                  clear hE0 KS1 H2
                  go_wp2_with fail
                  go_meet
                  exact ⟨⟨p, g, c, _, _, rfl, by rw [← HN.out]; omega, H5.out⟩⟩
          · by_cases hn0 : n = 0
            · have en : ((n : Int) == 0) = true := by simp [hn0]
              clear hn0
              go_wp2_with fail
              go_roundw
              case rel => exact ⟨k + 1, p, g, c, a, L, by omega, by go_num, rfl, by rw [← HN.out]; omega, KS1.out⟩
              case measure => simp [intOf]; omega
            · obtain ⟨Q, hQ, Q1, Q2⟩ : ∃ Q : Int, K.tmod (n : Int) = Q ∧ -(n : Int) < Q ∧ Q < (n : Int) := ⟨_, rfl, by have := tmod_lo K n (show (0 : Int) < n by omega); omega, by have := Int.tmod_lt_of_pos K (show (0 : Int) < n by omega); omega⟩
              obtain ⟨j, hj, hj', hj2⟩ : ∃ j : Nat, (Q + (n : Int)).tmod (n : Int) = (j : Int) ∧ (Q + (n : Int)) % (n : Int) = (j : Int) ∧ j < n := by
                have h1 := Int.emod_nonneg (Q + (n : Int)) (show (n : Int) ≠ 0 by omega)
                have h2 := Int.emod_lt_of_pos (Q + (n : Int)) (show (0 : Int) < n by omega)
                refine ⟨((Q + (n : Int)) % (n : Int)).toNat, ?_, ?_, ?_⟩
                · rw [Int.tmod_eq_emod_of_nonneg (by omega)]; omega
                · omega
                · omega
              have en : ((n : Int) == 0) = false := by simp [hn0]
              have en2 : (n = 0) = False := eq_false hn0
              have n1 : (n : Int) ≤ 100 := by omega
              have hja : j < a.dir.length := by rw [HLEN.out]; exact hj2
              have ps := remove_yes KS1.out.st.area j hja
              have PS := Lib.hid ps
              have HJ := Lib.hid hj2
              have HJA := Lib.hid hja
              have j1 : (j : Int) < (n : Int) := by omega
              clear ps hn0 hj2 hja
              go_wp2_with fail
              refine PS.out.mono ?_
              rintro e w2 ⟨rfl, h2⟩
              have st2 := Lib.hid (KS1.out.st.op h2)
              have tx2 := KS1.out.tx.touchA KS1.out.st.area h2.2
              clear h2 PS g0 g1 g2
              go_wp2_with fail
              obtain ⟨x1, sl1, sx1⟩ := tx2.head (k := j) (by rw [← HN.out]; omega)
              obtain ⟨x2, sl2, sx2⟩ := tx2.tail (k := j + 1) (by rw [← HN.out]; have := HJ.out; omega)
              rw [show ((j + 1 : Nat) : Int) = (j : Int) + 1 by omega] at sl2
              have hw1 : IntKind.i64.wrap ((j : Int) + 1) = (j : Int) + 1 := IntWalk.i64_in _ (by omega)
              have SX1 := Lib.hid (show SrcOf w2 x1 (L.take j).length ((L.take j).map Value.string) by rw [List.length_take, Nat.min_eq_left (by rw [← HN.out]; have := HJ.out; omega)]; exact sx1)
              have SX2 := Lib.hid (show SrcOf w2 x2 (L.drop (j + 1)).length ((L.drop (j + 1)).map Value.string) by rw [List.length_drop]; exact sx2)
              have hLn : L.length ≤ 100 := by rw [← HN.out]; omega
              have htl : (L.take j).length ≤ 100 := by rw [List.length_take]; omega
              have hdl : (L.drop (j + 1)).length ≤ 100 := by rw [List.length_drop]; omega
              have hTM : ∀ W' : World, Below w2.heap.size w2 W' → Tx w (W'.alloc (.cells #[] 9)) (.slice (some ⟨W'.heap.size, 0, none⟩) 0 0) [] := fun W' tt => Tx.made w [] (Nat.le_trans st2.out.below.size tt.size) (by simp)
              have TM := Lib.hid hTM
              have BD := Lib.hid (show Below w2.heap.size w2 w2.drew from (Below.refl _ _).drew)
              have BA := Lib.hid (show Below w2.heap.size w2 (w2.drew.alloc (.cells #[] 9)) from ((Below.refl _ _).drew).alloc (Nat.le_refl _) _)
              clear sx1 sx2 tx2 hTM
              go_wp2_with fail
              go_region_held3 (fun _ => True) (first | trivial)
                (first | (refine step_app (W0 := w) (news := L.take j) rfl _ _ rfl (TM.out _ BD.out) (SX1.out.later BA.out) (by simp; omega) rfl rfl ?_; intro v3 w3 t3 g3) | (refine step_app (W0 := w) (news := L.drop (j + 1)) rfl _ _ rfl t3 (SX2.out.later (BA.out.grown g3 BA.out.size (by intro y hy; simp [Value.ownBlock] at hy; omega))) (by simp; omega) rfl rfl ?_; intro v4 w4 t4 g4))
              have S4 := Lib.hid ((((st2.out.later BA.out).grown (TM.out _ BD.out) g3).grown t3 g4))
              have T4 := Lib.hid t4
              have HT := Lib.hid (show ([] ++ L.take j ++ L.drop (j + 1)).map (fun t : ByteArray => t.data.toList) = (a.del j).texts by
                rw [del_texts KS1.out.st.area.ok HJA.out, ← KS1.out.texts, List.nil_append, List.map_append, List.map_take, List.map_drop])
              clear t3 t4 g3 g4 sl1 sl2 hw1 SX1 SX2 TM BD BA KS1 st2
              go_wp2_with fail
              go_meet
              exact ⟨⟨p, g, c, _, _, rfl, by simp; rw [← HN.out]; omega, S4.out, T4.out, HT.out⟩⟩
          · have cp := compact_any KS1.out.st.area
            have CP := Lib.hid cp
            have HC2 := Lib.hid (compact_texts KS1.out.st.area.ok)
            clear cp
            go_wp2_with fail
            refine CP.out.mono ?_
            rintro e w2 ⟨rfl, h2⟩
            have H5 := Lib.hid (KS1.out.same h2 HC2.out)
            clear h2 CP KS1
            go_wp2_with fail
            go_meet
            exact ⟨⟨p, g, c, _, _, rfl, by rw [← HN.out]; omega, H5.out⟩⟩
          · have by_ := bytes_is KS1.out.st.area
            have ld := load_is KS1.out.st.area.ok KS1.out.st.below
            have BY := Lib.hid by_
            have LD := Lib.hid ld
            clear by_ ld
            generalize strB (imgA a) = S8 at *
            go_wp2_with fail
            refine BY.out.mono ?_
            rintro e w' ⟨rfl, rfl⟩
            go_wp2_with fail
            refine LD.out.mono ?_
            rintro e w3 ⟨rfl, b3, c', h3⟩
            have H5 := Lib.hid (show KS w w3 (W.heap.size + 1) W.heap.size c' a (.slice ad n cp) L from ⟨h3, KS1.out.tx.later b3, KS1.out.texts⟩)
            clear h3 b3 BY LD KS1
            go_wp2_with fail
            go_meet
            exact ⟨⟨_, _, c', _, _, rfl, by rw [← HN.out]; omega, H5.out⟩⟩
          · have en3 : ((q : Int) == 3) = false := by simp; omega
            have en4 : ((q : Int) == 4) = false := by simp; omega
            have en5 : ((q : Int) == 5) = false := by simp; omega
            have en6 : ((q : Int) == 6) = false := by simp; omega
            have en7 : ((q : Int) == 7) = false := by simp; omega
            have n1 : (n : Int) ≤ 100 := by omega
            have n0 : (0 : Int) ≤ (n : Int) := Int.natCast_nonneg _
            obtain ⟨Q, hQ, Q1, Q2⟩ : ∃ Q : Int, K.tmod ((n : Int) + 1) = Q ∧ -((n : Int) + 1) < Q ∧ Q < (n : Int) + 1 := ⟨_, rfl, tmod_lo K _ (by omega), Int.tmod_lt_of_pos K (by omega)⟩
            obtain ⟨j, hj, hj', hj2⟩ : ∃ j : Nat, (Q + (n : Int) + 1).tmod ((n : Int) + 1) = (j : Int) ∧ (Q + (n : Int) + 1) % ((n : Int) + 1) = (j : Int) ∧ j ≤ n := by
              have h1 := Int.emod_nonneg (Q + (n : Int) + 1) (show (n : Int) + 1 ≠ 0 by omega)
              have h2 := Int.emod_lt_of_pos (Q + (n : Int) + 1) (show (0 : Int) < (n : Int) + 1 by omega)
              refine ⟨((Q + (n : Int) + 1) % ((n : Int) + 1)).toNat, ?_, ?_, ?_⟩
              · rw [Int.tmod_eq_emod_of_nonneg (by omega)]; omega
              · omega
              · omega
            have en9 : ((n : Int) + 1 = 0) = False := eq_false (by omega)
            have ps := put_is KS1.out.st.area (j : Int) T (by omega)
            have PS := Lib.hid ps
            have HJ := Lib.hid hj2
            clear ps hj2 hq3 hq8
            obtain ⟨E, hE⟩ : ∃ E, E = putE a (j : Int) T.data.toList := ⟨_, rfl⟩
            rw [← hE] at PS
            have HE := Lib.hid hE
            clear hE
            go_wp2_with fail
            refine PS.out.mono ?_
            rintro e w2 ⟨rfl, h2⟩
            have H2 := Lib.hid h2
            have RN2 := Lib.hid (RN.out.touch h2.2 (RN.out.apart KS1.out.st.area))
            clear h2 PS g0 g1 g2
            by_cases hE0 : E = 0
            · have e1 : (E == 0) = true := by simp [hE0]
              have HE0 := Lib.hid (show putE a (j : Int) T.data.toList = 0 by rw [← HE.out]; exact hE0)
              have st2 := Lib.hid (KS1.out.st.op H2.out)
              have tx2 := KS1.out.tx.touchA KS1.out.st.area H2.out.2
              obtain ⟨x1, sl1, sx1⟩ := tx2.head (k := j) (by rw [← HN.out]; exact HJ.out)
              obtain ⟨x2, sl2, sx2⟩ := tx2.tail (k := j) (by rw [← HN.out]; exact HJ.out)
              have SX1 := Lib.hid (show SrcOf w2 x1 (L.take j).length ((L.take j).map Value.string) by rw [List.length_take, Nat.min_eq_left (by rw [← HN.out]; exact HJ.out)]; exact sx1)
              have SX2 := Lib.hid (show SrcOf w2 x2 (L.drop j).length ((L.drop j).map Value.string) by rw [List.length_drop]; exact sx2)
              have hLn : L.length ≤ 100 := by rw [← HN.out]; omega
              have htl : (L.take j).length ≤ 100 := by rw [List.length_take]; omega
              have hdl : (L.drop j).length ≤ 100 := by rw [List.length_drop]; omega
              have hTM : ∀ W' : World, Below w2.heap.size w2 W' → Tx w (W'.alloc (.cells #[.string T] 9)) (.slice (some ⟨W'.heap.size, 0, none⟩) 1 1) [T] := fun W' tt => Tx.made w [T] (Nat.le_trans st2.out.below.size tt.size) (by simp)
              have TM := Lib.hid hTM
              have BD := Lib.hid (show Below w2.heap.size w2 w2.drew from (Below.refl _ _).drew)
              have BA := Lib.hid (show Below w2.heap.size w2 (w2.drew.alloc (.cells #[.string T] 9)) from ((Below.refl _ _).drew).alloc (Nat.le_refl _) _)
              have hjn : j ≤ n := HJ.out
              clear sx1 sx2 tx2 hTM hE0
              go_wp2_with fail
              go_region_held3 (fun w' => w'.cell? ⟨nb, 2, none⟩ = some (.string T))
                (first | exact (RN2.out.later BD.out).g2 | exact (RN2.out.later BA.out).g2 | exact (RN2.out.later (BA.out.grown g3 BA.out.size (by intro y hy; simp [Value.ownBlock] at hy; omega))).g2)
                (first | (refine step_app (W0 := w) (news := L.drop j) rfl _ _ rfl (TM.out _ BD.out) (SX2.out.later BA.out) (by simp; omega) rfl rfl ?_; intro v3 w3 t3 g3))
              have S3 := Lib.hid (((st2.out.later BA.out).grown (TM.out _ BD.out) g3))
              have T3 := Lib.hid t3
              have BN := Lib.hid (show Below w3.heap.size w3 (w3.alloc (.cells #[] 9)) from (Below.refl _ _).alloc (Nat.le_refl _) _)
              have B23 := Lib.hid (BA.out.grown g3 BA.out.size (by intro y hy; simp [Value.ownBlock] at hy; omega))
              have TN := Lib.hid (Tx.made w (w := w3) [] S3.out.below.size (by simp))
              have BAN := Lib.hid (B23.out.trans (BN.out.mono B23.out.size))
              clear t3 g3 TM BD BA st2 RN2 sl2
              have hb1 : ([] : List ByteArray).length + (L.take j).length ≤ 1000000 := by simp; omega
              have hb2 : (([] : List ByteArray) ++ L.take j).length + ([T] ++ L.drop j).length ≤ 1000000 := by simp; omega
              have hgr : ∀ y, (Value.slice (some ⟨w3.heap.size, 0, none⟩) 0 0).ownBlock = some y → w3.heap.size ≤ y := by intro y hy; simp [Value.ownBlock] at hy; omega
              have HB1 := Lib.hid hb1
              have HB2 := Lib.hid hb2
              have HGR := Lib.hid hgr
              clear hb1 hb2 hgr
              go_wp2_with (first | (refine wpList_app (W0 := w) (news := L.take j) rfl _ _ rfl TN.out (SX1.out.later BAN.out) HB1.out rfl rfl ?_; intro v5 w5 t5 g5; clear sl1) | (refine wpList_app (W0 := w) (news := [T] ++ L.drop j) rfl _ _ rfl t5 (T3.out.all.later (BN.out.grown g5 BN.out.size HGR.out)) HB2.out rfl rfl ?_; intro v6 w6 t6 g6))
              have S5 := Lib.hid ((S3.out.later BN.out).grown TN.out g5)
              have T5 := Lib.hid t5
              clear t5 g5
              have S6 := Lib.hid (S5.out.grown T5.out g6)
              have T6 := Lib.hid t6
              have HT := Lib.hid (show ([] ++ L.take j ++ ([T] ++ L.drop j)).map (fun t : ByteArray => t.data.toList) = (putA a (j : Int) T.data.toList).texts by
                rw [putA_texts KS1.out.st.area.ok HE0.out, ← KS1.out.texts, Int.toNat_natCast, List.nil_append, List.map_append, List.map_append, List.map_take, List.map_drop]
                rfl)
              clear t6 g6 S5 T5 T3 S3 TN BN B23 BAN SX1 SX2 KS1
              go_wp2_with fail
              go_meet
              exact ⟨⟨p, g, c, _, _, rfl, by simp; rw [← HN.out]; omega, S6.out, T6.out, HT.out⟩⟩
            · have e1 : (E == 0) = false := by simp [hE0]
              have H5 := Lib.hid (KS1.out.same H2.out (by rw [putA_no (by rw [← HE.out]; exact hE0)]))
              clear hE0 KS1 H2
              go_wp2_with fail
              go_meet
              exact ⟨⟨p, g, c, _, _, rfl, by rw [← HN.out]; omega, H5.out⟩⟩
        case rest =>
          obtain ⟨p', g', c', a', L', rfl, hL', hks⟩ := hcut.ex
          obtain ⟨ad', cp', rfl⟩ := hks.tx.shape
          have ln := len_is hks.st.area
          rw [hks.len] at ln
          have LN := Lib.hid ln
          have HK1 := Lib.hid hks
          have hL1 : (L'.length : Int) ≤ 101 := by omega
          obtain ⟨n', hn'⟩ : ∃ n', n' = L'.length := ⟨_, rfl⟩
          rw [← hn'] at LN hL1
          have HN' := Lib.hid hn'
          rw [← hn']
          have HLL := Lib.hid hL'
          clear hks ln hcut hn' hL' KS1 g0 g1 g2 RN HN HLEN hLk
          go_wp2_with fail
          refine LN.out.mono ?_
          rintro e w' ⟨rfl, rfl⟩
          clear LN
          go_wp2_with fail
          obtain ⟨wo, ewo⟩ : ∃ wo : World, wo = wr := ⟨_, rfl⟩
          clear ewo
          go_loopw [17] (fun i wr => ∃ j : Nat, j ≤ n' ∧ i = .int .i64 j ∧ KS w wr p' g' c' a' (.slice ad' L'.length cp') L') (fun i _ => n' - (intOf i).toNat)
          case atStart => exact ⟨0, by omega, by go_num, HK1.out⟩
          case round =>
            obtain ⟨j, hj, rfl, hks⟩ := hrel
            clear HK1
            by_cases hjl : j < n'
            · have hjL : j < L'.length := by rw [← HN'.out]; exact hjl
              have gt := get_is hks.st.area (j : Int)
              obtain ⟨tx1, hp⟩ := hks.text hjL
              rw [tx1, if_pos hp] at gt
              have HK2 := Lib.hid hks
              have GT := Lib.hid gt
              have HJL := Lib.hid hjL
              have cat := fun W (hh : Tx w W (.slice ad' L'.length cp') L') => hh.at hjL
              have CAT := Lib.hid cat
              clear gt tx1 hp hks hjL cat
              generalize L'.getD j ⟨#[]⟩ = S9 at *
              have j1 : (j : Int) < (n' : Int) := by omega
              have j0 : (0 : Int) ≤ (j : Int) := Int.natCast_nonneg _
              go_wp2_with fail
              refine GT.out.mono ?_
              rintro e w4 ⟨rfl, b4⟩
              have HK3 := Lib.hid (HK2.out.later b4)
              obtain ⟨y, rfl, cy⟩ := CAT.out w4 HK3.out.tx
              clear b4 GT HK2 CAT
              go_wp2_with fail
              go_roundw
              case rel => exact ⟨j + 1, by omega, by go_num, HK3.out⟩
              case measure => simp [intOf]; omega
            · obtain rfl : j = n' := by omega
              have HK2 := Lib.hid hks
              clear hks
              go_wp2_with fail
              go_roundw
              case rel => exact ⟨k + 1, p', g', c', a', L', by omega, by go_num, rfl, HLL.out, by rw [HN'.out]; exact HK2.out⟩
              case measure => simp [intOf]; omega
      · obtain rfl : k = l.length := by omega
        have HB := Lib.hid hks.st.below
        clear hks hLk
        go_wp2_with fail
        refine (al.out _).mono ?_
        rintro e w2 ⟨rfl, b2⟩
        have B := Lib.hid (HB.out.trans (b2.mono HB.out.size))
        clear b2
        go_wp2_with fail
        go_ret
        exact ⟨rfl, B.out⟩

end Go.Proofs.Ytehfclgngkhcpaa.Slot
