/-
  Sorting of numbers: slices.Sort.
  slices.Compact at numbers of 32 bits.
  The code's Pages.
-/
import Derived.Lib.OwnBridge
import Derived.Test.YtfcibccipkokoaaZ30
import Derived.Test.YtfcibccipkokoaaZ22
import Derived.Test.YtfcibccipkokoaaZ31
import Derived.Test.YtfcibccipkokoaaZ4
import Derived.Test.YtfcibccipkokoaaZ16
namespace Go.Proofs.Ytfcibccipkokoaa.Qs
open Go.RowKit
attribute [local go_sem ↓] Go.wp_at_zero Go.wp_at_succ

theorem bits_any (l : Nat) (hl : l ≤ 1000000) (w : World) : Calls Try.prog 66 #[.int .u64 (l : Int)] w fun e w' => e = .returned (.int .i64 (Go.Sort.bitsLen l : Int)) ∧ w' = w := by
  have h := Try.bits_Len (l : Int) w (by omega) (by omega)
  rw [Int.toNat_natCast, len_eq 20 l (by omega) (by omega)] at h
  exact h
set_option maxRecDepth 100000 in
theorem sort_any {w : World} {g n c : Nat} {d : Array Nat} (h : Hs w g d) (hn : d.size = n) (hs : n ≤ 1000000) :
    Calls Try.prog 35 #[.slice (some ⟨g, 0, none⟩) n c] w (Sp w g n (Go.Sort.sort lt d)) := by
  have KB := Lib.hid (bits_any n hs w)
  have hk : Go.Sort.bitsLen n ≤ 62 := (Go.Sort.bitsLen_le_iff n 62).2 (by omega)
  have K0 := pdq_any (n + 1) w g n c 0 n (Go.Sort.bitsLen n) d (by omega) h hn (Nat.zero_le _) (Nat.le_refl _) hs (by omega) (.inl rfl)
  have KP := Lib.hid (show Calls Try.prog 65 #[.slice (some ⟨g, 0, none⟩) n c, .int .i64 0, .int .i64 (n : Int), .int .i64 (Go.Sort.bitsLen n : Int)] w (Sp w g n (Go.Sort.sort lt d)) by unfold Go.Sort.sort; rw [hn]; exact K0)
  have u1 : IntKind.u64.wrap (n : Int) = (n : Int) := by rw [IntKind.wrap_u64]; omega
  clear K0 h hn hk
  go_enter Try.func35, Try.ntmps35
  go_wp2_with (go_at_call 66; refine KB.out.mono ?_; rintro e w' ⟨rfl, rfl⟩)
  refine KP.out.mono ?_
  rintro e w' ⟨rfl, hs2⟩
  have S := Lib.hid hs2
  clear hs2
  go_wp2_with fail
  go_end0
  exact ⟨rfl, S.out⟩

/-! #### none -/
set_option maxRecDepth 100000 in
theorem ins_nil (w : World) : Calls Try.prog 83 #[.slice none 0 0, .int .i64 0, .int .i64 0] w fun e w' => e = .returned (.tuple #[]) ∧ w' = w := by
  go_enter Try.func83, Try.ntmps83
  go_wp2_with fail
  go_loopw [6] (fun i wr => i = .int .i64 1 ∧ wr = w) (fun _ _ => 0)
  case atStart => exact ⟨rfl, rfl⟩
  case round =>
    obtain ⟨rfl, rfl⟩ := hrel
    go_wp2_with fail
    go_end0
    exact ⟨rfl, rfl⟩
set_option maxRecDepth 100000 in
theorem pdq_nil (w : World) : Calls Try.prog 65 #[.slice none 0 0, .int .i64 0, .int .i64 0, .int .i64 0] w fun e w' => e = .returned (.tuple #[]) ∧ w' = w := by
  have K := Lib.hid (ins_nil w)
  go_enter Try.func65, Try.ntmps65
  go_wp2_with fail
  go_loopw [1, 2, 3, 8, 9] (fun s1 s2 s3 s8 s9 wr => s1 = .int .i64 0 ∧ s2 = .int .i64 0 ∧ s3 = .int .i64 0 ∧ s8 = .bool true ∧ s9 = .bool true ∧ wr = w) (fun _ _ _ _ _ _ => 0)
  case atStart => exact ⟨rfl, rfl, rfl, rfl, rfl, rfl⟩
  case round =>
    obtain ⟨rfl, rfl, rfl, rfl, rfl, rfl⟩ := hrel
    go_wp2_with fail
    refine K.out.mono ?_
    rintro e w' ⟨rfl, rfl⟩
    go_wp2_with fail
    (try simp only [Exit.inBlock, Exit.then])
    refine bodyPost_ret (results_none rfl _ _ _) rfl ?_
    exact ⟨rfl, rfl⟩
set_option maxRecDepth 100000 in
theorem sort_nil (w : World) : Calls Try.prog 35 #[.slice none 0 0] w fun e w' => e = .returned (.tuple #[]) ∧ w' = w := by
  have KB := Lib.hid (show Calls Try.prog 66 #[.int .u64 0] w fun e w' => e = .returned (.int .i64 0) ∧ w' = w from bits_any 0 (by omega) w)
  have KP := Lib.hid (pdq_nil w)
  go_enter Try.func35, Try.ntmps35
  go_wp2_with (go_at_call 66; refine KB.out.mono ?_; rintro e w' ⟨rfl, rfl⟩)
  refine KP.out.mono ?_
  rintro e w' ⟨rfl, rfl⟩
  go_wp2_with fail
  go_end0
  exact ⟨rfl, rfl⟩

end Go.Proofs.Ytfcibccipkokoaa.Qs

namespace Go.Proofs.Ytfcibccipkokoaa.Qs
open Go.RowKit
open Go.Proofs.Ytfcibccipkokoaa.Seq (u32S Is all)

/-- a number as it lies -/
def enc (x : Nat) : Value := .int .u32 (x : Int)
theorem Hs.holds {W : World} {g : Nat} {d : Array Nat} (h : Hs W g d) : Go.Sort.Holds enc W g 0 d := fun j hj => by
  rw [Nat.zero_add]
  exact ⟨h.cell hj, h.free j⟩
theorem eqlU (P : Program) (T : TypeId) : EqlAt P T enc (fun x y => decide (x = y)) :=
  ⟨fun x y w => ((EqlAt.intD P T .u32).1 (x : Int) (y : Int) w).trans (by simp; omega), fun op a b x y w => (EqlAt.intD P T .u32).2 op a b (x : Int) (y : Int) w⟩
theorem neqU (P : Program) (T : TypeId) : NeqAt P T enc (fun x y => decide (x = y)) :=
  ⟨fun x y w => ((NeqAt.intD P T .u32).1 (x : Int) (y : Int) w).trans (by simp; omega), fun op a b x y w => (NeqAt.intD P T .u32).2 op a b (x : Int) (y : Int) w⟩
theorem all_u32 : ∀ l : List Nat, all u32S l = l.map enc
  | [] => rfl
  | x :: l => by
    rw [Seq.all_cons, all_u32 l]
    rfl

theorem compact_any {w W : World} {g n c : Nat} {d : Array Nat} (B : Below w.heap.size w W) (hg : w.heap.size ≤ g) (h : Hs W g d) (hn : d.size = n) (hc : n ≤ c) (hs : n ≤ 1000000) :
    Calls Try.prog 36 #[.slice (some ⟨g, 0, none⟩) n c] W fun e w' => ∃ v, e = .returned v ∧ Is u32S w' v (Lib.compactUpTo d n) ∧ Below w.heap.size w w' := by
  subst hn
  obtain ⟨cs, hb, _⟩ := h.row
  have hlt : g < W.heap.size := (Array.getElem?_eq_some_iff.1 hb).1
  have H := h.holds
  have K := AnyE.slices_Compact Try.cmpU32 enc (fun _ => rfl) (eqlU _ _) (neqU _ _) 0 Try.zeroValue33 g 0 c d W H (by omega) hc
  refine Calls.mono (P := Try.prog) K ?_
  rintro e w' ⟨rfl, q, rfl⟩
  obtain ⟨L, hL⟩ : ∃ L, L = Lib.compactUpTo d d.size := ⟨_, rfl⟩
  rw [← hL]
  have hlen : L.length ≤ d.size := by rw [hL]; exact comp_len d d.size
  have hz : (L ++ List.replicate (d.size - L.length) 0).toArray.size = d.size := by simp; omega
  refine ⟨_, rfl, ⟨_, c, rfl, by omega, fun e => (by cases e), .inr ⟨g, 0, rfl, by simpa using hlt, fun j u hj => ?_⟩⟩, Lib.below_putRow B hg⟩
  rw [all_u32, List.getElem?_map] at hj
  have hjl : j < L.length := by
    rcases Nat.lt_or_ge j L.length with a | a
    · exact a
    · rw [List.getElem?_eq_none a] at hj; cases hj
  rw [List.getElem?_eq_getElem hjl] at hj
  simp only [Option.map_some, Option.some.injEq] at hj
  have := Go.Sort.cell?_putRow enc (Sort.ahead W q) g 0 d (L ++ List.replicate (d.size - L.length) 0).toArray (Go.Sort.holds_ahead _ _ _ _ _ _ H) hz j (by rw [hz]; omega)
  rw [this, ← hj]
  congr 2
  rw [getElem!_pos _ j (by rw [hz]; omega)]
  simp [List.getElem_append_left hjl]

end Go.Proofs.Ytfcibccipkokoaa.Qs

namespace Go.Proofs.Ytfcibccipkokoaa.Op
open Go.RowKit
attribute [local go_sem ↓] Go.wp_at_zero Go.wp_at_succ
open Go.Proofs.Ytfcibccipkokoaa.Seq (u32S Is Own one_src below_own)
open Go.Proofs.Ytfcibccipkokoaa.By

theorem compact_nil (w : World) : Calls Try.prog 36 #[.slice none 0 0] w fun e w' => e = .returned (.slice none 0 0) ∧ w' = w := by
  go_enter Try.func36, Try.ntmps36
  go_wp2_with fail
  go_ret
  exact ⟨rfl, rfl⟩
/-- a list of the call's own, none of it missing: as the sort sees it -/
theorem own_hs {W0 w : World} {g c : Nat} {l : List Nat} {cur : Array Value} (h : w.heap[g]? = some (.cells cur u32S.e (0, 0))) (ht : cur.toList.take (l.length * u32S.k) = Seq.all u32S l) : Qs.Hs w g l.toArray := by
  refine ⟨⟨cur, h, fun i hi => ?_⟩⟩
  have hi2 : i < l.length := by simpa using hi
  have := congrArg (fun x => x[i]?) ht
  rw [show u32S.k = 1 from rfl, Nat.mul_one, List.getElem?_take, if_pos hi2, Qs.all_u32, List.getElem?_map, List.getElem?_eq_getElem hi2] at this
  rw [← Array.getElem?_toList, this, getElem!_pos _ i hi]
  rfl

set_option maxRecDepth 100000 in
set_option maxHeartbeats 4000000 in
theorem cpages_any {w : World} {l : List O} {v : Value} (h : Ops w v l) (hlen : l.length ≤ 100000) : Calls Try.prog 13 #[v] w fun e w' => ∃ v' ps, e = .returned v' ∧ Is u32S w' v' ps ∧ PsOf l ps ∧ ps.length ≤ l.length ∧ Below w.heap.size w w' := by
  obtain ⟨ad, c, rfl⟩ := h.shape
  have H := Lib.hid h
  obtain ⟨m, hm⟩ : ∃ m, m = l.length := ⟨_, rfl⟩
  have M := Lib.hid hm.symm
  rw [← hm] at hlen ⊢
  clear h hm
  go_enter Try.func13, Try.ntmps13
  go_wp2_with fail
  go_loopw [3, 8] (fun x i wr => ∃ (k : Nat) (v' : Value), x = v' ∧ i = .int .i64 (k : Int) ∧ k ≤ m ∧ Own u32S w wr v' ((l.take k).map O.page) ∧ Below w.heap.size w wr) (fun _ i _ => m - (intOf i).toNat)
  case atStart => exact ⟨0, _, rfl, by go_num, Nat.zero_le _, Own.nil u32S w (Nat.le_refl _), Below.refl _ _⟩
  case round =>
    obtain ⟨k, v', rfl, rfl, hk, ho, hb⟩ := hrel
    have B := Lib.hid hb
    have OW := Lib.hid ho
    clear hb ho
    by_cases hlt : k < m
    · have hkl : k < l.length := by rw [M.out]; exact hlt
      obtain ⟨u, b, o, rfl, hi, hoo⟩ := H.out.nine hkl
      obtain ⟨a0, a1, a2, a3, a4, a5, a6, a7, a8, _⟩ := hoo.later B.out
      have NX := Lib.hid (show (l.take k).map O.page ++ [l[k].page] = (l.take (k + 1)).map O.page by rw [List.take_succ_eq_append_getElem hkl, List.map_append]; rfl)
      have LN := Lib.hid (show ((l.take k).map O.page).length ≤ 100000 by rw [List.length_map, List.length_take]; omega)
      have I0 := Lib.hid hi
      clear hi hoo
      generalize l[k] = X at *
      generalize (l.take k).map O.page = L at *
      obtain ⟨ua, uc, hu⟩ := I0.out.rows.shape
      obtain ⟨un, hun⟩ : ∃ un, un = X.rows.length := ⟨_, rfl⟩
      rw [← hun] at hu
      subst hu
      clear hun
      have T1 := Lib.hid (Bx.start wr X (.slice ua un uc))
      have O1 := Lib.hid (OW.out.later T1.out.below)
      have B1 := Lib.hid (B.out.trans (T1.out.below.mono B.out.size))
      unfold oC at T1 O1 B1
      clear OW
      go_upto_region 5 with fail
      clear a0 a1 a2 a3 a4 a5 a6 a7 a8
      generalize hg : wr.heap.size = g at *
      generalize wr.alloc _ = wq at *
      obtain ⟨a0, a1, a2, a3, a4, a5, a6, a7, a8⟩ := T1.out.nine
      have O2 := Lib.hid (O1.out.later (below_new wq (.cells #[.int .u32 (X.page : Int)] 33)))
      have B2 := Lib.hid (B1.out.trans ((below_new wq (.cells #[.int .u32 (X.page : Int)] 33)).mono B1.out.size))
      have S2 := Lib.hid (show Seq.Src u32S (wq.alloc (.cells #[.int .u32 (X.page : Int)] 33)) (.slice (some ⟨wq.heap.size, 0, none⟩) 1 1) [X.page] from one_src u32S (W := wq) X.page)
      go_wp2_with (first | (refine Seq.wpList_app (S := u32S) (W0 := w) rfl (.tmp 12) (.tmp 15) rfl O2.out S2.out (by have := LN.out; simp; omega) rfl rfl ?_; intro v1 w1 o1 g1; have B3 := Lib.hid (below_own B2.out O2.out g1); rw [NX.out] at o1; have O3 := Lib.hid o1; clear o1 g1 O2 S2 B2 O1 B1 T1 a0 a1 a2 a3 a4 a5 a6 a7 a8))
      go_roundw
      case rel => exact ⟨k + 1, v1, rfl, by go_num, hlt, O3.out, B3.out⟩
      case measure => simp [intOf]; omega
    · obtain rfl : k = m := by omega
      have OE := OW.out
      rw [List.take_of_length_le (by rw [M.out]; exact Nat.le_refl _)] at OE
      have LE : (l.map O.page).length = k := by rw [List.length_map, M.out]
      have CS := Lib.hid (Qs.comp_sort (l.map O.page))
      rw [LE] at CS
      rcases OE.form with ⟨rfl, e0⟩ | ⟨g, cap, cur, rfl, hg, hrow, hcap, htk⟩
      · have K1 := Lib.hid (Qs.sort_nil wr)
        have K2 := Lib.hid (compact_nil wr)
        have E0 := Lib.hid (show l = [] by simpa using e0)
        clear OE OW e0 LE CS
        go_wp2_with fail
        refine K1.out.mono ?_
        rintro e w2 ⟨rfl, rfl⟩
        go_wp2_with fail
        refine K2.out.mono ?_
        rintro e w3 ⟨rfl, rfl⟩
        go_wp2_with fail
        go_ret
        exact ⟨_, [], rfl, Is.nil _, ⟨fun n => by rw [E0.out]; simp, List.Pairwise.nil⟩, Nat.zero_le _, B.out⟩
      · have HS := own_hs (W0 := w) (c := c) hrow htk
        rw [LE] at hcap
        have K1 := Lib.hid (Qs.sort_any (c := cap) HS (show (l.map O.page).toArray.size = k by rw [List.size_toArray]; exact LE) (by omega))
        have HG := Lib.hid hg
        have HC := Lib.hid hcap
        rw [LE]
        clear OE OW LE hg hcap hrow htk HS
        go_wp2_with fail
        refine K1.out.mono ?_
        rintro e w2 ⟨rfl, s2⟩
        have B2 := Lib.hid (B.out.trans (s2.t.below B.out.size (fun x hx => hx ▸ HG.out)))
        have K2 := Lib.hid (Qs.compact_any B2.out HG.out s2.hs s2.sz HC.out (by omega))
        clear s2 K1
        go_wp2_with fail
        refine K2.out.mono ?_
        rintro e w3 ⟨v3, rfl, i3, b3⟩
        have I3 := Lib.hid i3
        have B3 := Lib.hid b3
        clear i3 b3
        go_wp2_with fail
        go_ret
        exact ⟨_, _, rfl, I3.out, ⟨fun n => by rw [CS.out.2 n, List.mem_map], CS.out.1⟩, Qs.comp_len _ _, B3.out⟩

end Go.Proofs.Ytfcibccipkokoaa.Op
