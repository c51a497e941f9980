/-
  Walks: an op that is read (the document): rows that are filled in.
-/
import Derived.Deep.RegionLaw
import Derived.Test.YticnbicnefnhbaaZ10
namespace Go.Proofs.Yticnbicnefnhbaa.Op
open Go.RowKit
open Go.Proofs.Yticnbicnefnhbaa.Seq (strS Is Own one_src step_app)
open Go.Proofs.Yticnbicnefnhbaa.By
attribute [local go_sem ↓] Go.wp_at_zero Go.wp_at_succ

theorem tsV_succ (k : Nat) (r : Rd) : tsV (k + 1) r = ((tV r).1 :: (tsV k (tV r).2).1, (tsV k (tV r).2).2) := rfl
/-- an op of rows -/
def fillO (k p : Nat) (xs : List ByteArray) : O := { kind := k, page := p, at' := 0, off := 0, text := ⟨#[]⟩, rows := xs, pkind := 0, level := 0, next := 0 }
/-- i of N rows have been read: xs; what is left: r' -/
structure L6 (W0 w wr : World) (g h n B : Nat) (s : ByteArray) (k p N : Nat) (rq : Rd) (i : Nat) (xs : List ByteArray) (r' : Rd) (v : Value) : Prop where
  S : G1 w wr g h n (fillO k p xs) v
  G : Gt W0 wr g (B + 100000) s r'
  O : Own strS w wr v xs
  len : xs.length = i
  sz : ∀ x ∈ xs, x.size < 65536
  is : tsV N rq = (xs ++ (tsV (N - i) r').1, (tsV (N - i) r').2)
section
variable {W0 w wr w' : World} {g h n B : Nat} {s : ByteArray} {k p N i : Nat} {rq r' r'' : Rd} {xs : List ByteArray} {v v' : Value} {t : ByteArray}
theorem L6.later (L : L6 W0 w wr g h n B s k p N rq i xs r' v) (b : Below wr.heap.size wr w') : L6 W0 w w' g h n B s k p N rq i xs r' v := ⟨L.S.later b, L.G.later b, L.O.later b, L.len, L.sz, L.is⟩
/-- a text was read -/
theorem L6.took (L : L6 W0 w wr g h n B s k p N rq i xs r' v) (U : Touch (fun x => x = g) wr w') : G1 w w' g h n (fillO k p xs) v ∧ Own strS w w' v xs := by
  have hl := L.S.gl
  exact ⟨L.S.read U, L.O.far U.size fun x hx => U.block x (L.O.lt x hx).2 (by have := (L.O.lt x hx).1; omega)⟩
/-- it is appended -/
theorem G1.grown {q : O} (S : G1 w wr g h n q v) (O : Own strS w wr v xs) (gw : wr.grownBy w' v.ownBlock) : G1 w w' g h n q v := by
  have e : (26 : TypeId) ≠ strS.e := by decide
  have h1 := S.hge
  have h2 := S.gl
  refine ⟨(gw.block h (Array.getElem?_eq_some_iff.1 S.res).1 fun e2 => O.ne S.res e h e2.symm rfl).trans S.res, (gw.block n (Array.getElem?_eq_some_iff.1 S.x).1 fun e2 => O.ne S.x e n e2.symm rfl).trans S.x, ?_, S.gl, S.hn, S.hge⟩
  exact ⟨gw.os.trans S.t.os, gw.tape.trans S.t.tape, gw.output.trans S.t.output, Nat.le_trans S.t.size gw.size, fun b hb hF => (gw.block b (Nat.lt_of_lt_of_le hb S.t.size) fun e2 => by have := (O.lt b e2.symm).1; omega).trans (S.t.block b hb hF)⟩
theorem Gt.grown {W0 w wr w' : World} {g B : Nat} {s : ByteArray} {r : Rd} (G : Gt W0 wr g B s r) (hW : W0.heap.size ≤ w.heap.size) (hg : g < w.heap.size) (O : Own strS w wr v xs) (gw : wr.grownBy w' v.ownBlock) : Gt W0 w' g B s r :=
  G.far ((Below.refl W0.heap.size wr).grown gw G.base.2.2.size fun k e => by have := (O.lt k e).1; omega) (gw.block g G.base.2.1 fun e => by have := (O.lt g e.symm).1; omega)
theorem own_part {q : O} {xs : List ByteArray} {v' z : Value} {j : Nat} (S : G1 w wr g h n q v) (O : Own strS w wr v' xs) : Own strS w (wr.setCell ⟨n, j, none⟩ z) v' xs := by
  have e : (26 : TypeId) ≠ strS.e := by decide
  exact O.far (by simp) fun x hx => heap_setCell_other _ _ _ _ (O.ne S.x e x hx)
theorem own_row {q : O} {xs : List ByteArray} {v' : Value} {cs : Array Value} (S : G1 w wr g h n q v) (O : Own strS w wr v' xs) : Own strS w (wr.setRow h cs) v' xs := by
  have e : (26 : TypeId) ≠ strS.e := by decide
  exact O.far (by simp [World.setRow]) fun x hx => setRow_other _ _ _ _ (O.ne S.res e x hx)
theorem L6.next {q : List UInt8} {B' : Nat} (L : L6 W0 w wr g h n B s k p N rq i xs (some q) v) (hi : i < N) (dt : tV (some q) = (t, r'')) (M : G1 w w' g h n (fillO k p xs) v) (G : Gt W0 w' g B' s r'') (hB : B' ≤ B + 100000) (O : Own strS w w' v' (xs ++ [t])) (hz : t.size < 65536) (hnn : W0.heap.size ≤ n) (gn : g ≠ n) :
    L6 W0 w (w'.setCell ⟨n, 5, none⟩ v') g h n B s k p N rq (i + 1) (xs ++ [t]) r'' v' := by
  refine ⟨M.part 5 v' rfl, (G.mono hB).set hnn gn, own_part M O, by rw [List.length_append, L.len]; rfl, fun x hx => ?_, ?_⟩
  · rcases List.mem_append.1 hx with hx | hx
    · exact L.sz x hx
    · rw [List.mem_singleton.1 hx]; exact hz
  · have e := L.is
    rw [show N - i = (N - (i + 1)) + 1 by omega, tsV_succ, dt] at e
    rw [e]
    simp
theorem L6.result (L : L6 W0 w wr g h n B s k p N rq i xs r' v) (hk : k < 256) (hp : p < 4294967296) (hN : N < 65536) (hi : i ≤ N) : In (wr.setRow h (oC (fillO k p xs) v)) (fillO k p xs) v := by
  have O2 := own_row (cs := oC (fillO k p xs) v) L.S L.O
  refine ⟨⟨hk, hp, (by show 0 < 256; decide), (by show 0 < 256; decide), (by show 0 < 4294967296; decide)⟩, (by show -9223372036854775808 ≤ (0 : Int) ∧ (0 : Int) ≤ 9223372036854775807; decide), (by show -9223372036854775808 ≤ (0 : Int) ∧ (0 : Int) ≤ 9223372036854775807; decide), (by show 0 ≤ 140737488351232; decide), O2.is, (by show xs.length ≤ _; rw [L.len]; omega), fun r hr => by have := L.sz r hr; omega⟩
theorem L6.read {r r2 : Rd} (L : L6 W0 w wr g h n B s 6 p N rq i xs r' v) (hi : i ≤ N) (he : opV r = tailV 6 p r2) (d : nV 2 r2 = (N, rq)) (h : i = N ∨ r' = none) : opV r = (fillO 6 p xs, r') ∨ (opV r).2 = none ∧ r' = none := by
  have e : tailV 6 p r2 = (fillO 6 p (tsV N rq).1, (tsV N rq).2) := by
    unfold tailV
    simp [d, O.zero, fillO]
  rw [he, e]
  have e2 := L.is
  rcases h with rfl | rfl
  · rw [Nat.sub_self] at e2
    rw [e2]
    refine .inl ?_
    simp [tsV]
  · refine .inr ⟨?_, rfl⟩
    rw [e2]
    exact tsV_none _
end

set_option maxRecDepth 100000 in
set_option maxHeartbeats 4000000 in
theorem gone6 {W0 w : World} {g B : Nat} {s : ByteArray} {r : Rd} (G : Gt W0 w g B s r) (hs : s.size ≤ 100000) (hB : s.size ≤ B ∧ B ≤ 800000000) (hkk : (nV 1 r).1 = 6) :
    Calls Try.prog 36 #[.pointer (some ⟨g, 0, none⟩)] w (OneP W0 w g B s r) := by
  have hz : oC O.zero nilV = #[.int .u8 0, .int .u32 0, .int .i64 0, .int .i64 0, .string ⟨#[]⟩, .slice none 0 0, .int .u8 0, .int .u8 0, .int .u32 0] := rfl
  have F0 := Lib.hid (show Gt W0 (w.alloc (.cells #[.int .u8 0, .int .u32 0, .int .i64 0, .int .i64 0, .string ⟨#[]⟩, .slice none 0 0, .int .u8 0, .int .u8 0, .int .u32 0] 26)) g B s r from G.later (below_new w _))
  have R0 := Lib.hid (show (w.alloc (.cells #[.int .u8 0, .int .u32 0, .int .i64 0, .int .i64 0, .string ⟨#[]⟩, .slice none 0 0, .int .u8 0, .int .u8 0, .int .u32 0] 26)).heap[w.heap.size]? = some (.cells (oC O.zero nilV) 26 (0, 0)) from by rw [hz]; exact heap_alloc_new w _)
  obtain ⟨k, r1, hk⟩ : ∃ k r1, nV 1 r = (k, r1) := ⟨_, _, rfl⟩
  obtain ⟨p, r2, hp⟩ : ∃ p r2, nV 4 r1 = (p, r2) := ⟨_, _, rfl⟩
  have hk8 := nx1 hk
  have hp4 := nx4 hp
  rw [hk] at hkk
  simp only at hkk
  have HE : opV r = tailV k p r2 := by unfold opV; rw [hk, hp]
  have E0 := Lib.hid HE
  have K1 := Lib.hid (gn1 F0.out hs (by omega) hk)
  have gb := G.base
  have HP := Lib.hid hp
  clear hk hp HE
  have wk : IntKind.u8.wrap (k : Int) = (k : Int) := by rw [IntKind.wrap_u8]; omega
  have HKK := Lib.hid hkk
  clear hz hkk
  go_enter Try.func36, Try.ntmps36
  go_upto_region 2 with (go_at_call 35; (with_reducible refine K1.out.mono ?_); rintro e w1 ⟨rfl, G1, U1⟩)
  have G2 := Lib.hid (show Gt W0 (w1.alloc (.cells #[.int .u8 (k : Int), .int .u32 0, .int .i64 0, .int .i64 0, .string ⟨#[]⟩, .slice none 0 0, .int .u8 0, .int .u8 0, .int .u32 0] 26)) g (B + 8) s r1 from G1.later (below_new w1 _))
  have S1 := Lib.hid (show Op.G1 w (w1.alloc (.cells #[.int .u8 (k : Int), .int .u32 0, .int .i64 0, .int .i64 0, .string ⟨#[]⟩, .slice none 0 0, .int .u8 0, .int .u8 0, .int .u32 0] 26)) g w.heap.size w1.heap.size { O.zero with kind := k } nilV from by
    have z1 : (w.alloc (.cells #[.int .u8 0, .int .u32 0, .int .i64 0, .int .i64 0, .string ⟨#[]⟩, .slice none 0 0, .int .u8 0, .int .u8 0, .int .u32 0] 26)).heap.size = w.heap.size + 1 := by simp
    have z2 := U1.size
    have b2 := below_new w1 (.cells #[.int .u8 (k : Int), .int .u32 0, .int .i64 0, .int .i64 0, .string ⟨#[]⟩, .slice none 0 0, .int .u8 0, .int .u8 0, .int .u32 0] 26)
    refine ⟨(b2.block _ (by omega)).trans ((U1.block _ (by omega) (by omega)).trans R0.out), heap_alloc_new w1 _, ?_, by omega, by omega, Nat.le_refl _⟩
    exact ((Touch.ofNew (below_new w _)).trans' U1).trans' (Touch.ofNew b2))
  have hW : W0.heap.size ≤ w.heap.size := gb.2.2.size
  have K4 := Lib.hid (gn4 G2.out hs (by omega) HP.out)
  clear R0 G1 U1 K1 F0 gb wk
  have hh : Hid (∃ h, h = w.heap.size) := Lib.hid ⟨_, rfl⟩
  generalize w1.heap.size = n at *
  generalize w1.alloc _ = V at *
  have wp : IntKind.u32.wrap (p : Int) = (p : Int) := by rw [IntKind.wrap_u32]; omega
  obtain ⟨x0, x1, x2, x3, x4, x5, x6, x7, x8⟩ := S1.out.nine
  have gn := S1.out.gn
  have hnn : W0.heap.size ≤ n := by have := S1.out.hge; have := S1.out.hn; omega
  go_upto_region 3 with (go_at_call 35; (with_reducible refine K4.out.mono ?_); rintro e w2 ⟨rfl, G3, U3⟩; have f1 := (S1.out.read U3).free 1; clear x0 x1 x2 x3 x4 x5 x6 x7 x8; obtain ⟨x0, x1, x2, x3, x4, x5, x6, x7, x8⟩ := (S1.out.read U3).nine)
  have S0 := Lib.hid ((S1.out.read U3).part (q' := { O.zero with kind := k, page := p }) (v' := nilV) 1 (.int .u32 (p : Int)) rfl)
  have G0 := Lib.hid (G3.set (j := 1) (z := .int .u32 (p : Int)) hnn gn)
  clear S1 U3 G3 K4 f1 x0 x1 x2 x3 x4 x5 x6 x7 x8 G2 wp hh
  generalize w2.setCell ⟨n, 1, none⟩ (.int .u32 (p : Int)) = W at *
  obtain ⟨h, hh⟩ : ∃ h, h = w.heap.size := ⟨_, rfl⟩
  rw [← hh] at S0
  have HH := Lib.hid hh
  rw [← hh]
  clear hh
  have k1 : ((k : Int) == 1) = false := by rw [HKK.out]; rfl
  have k2 : ((k : Int) == 2) = false := by rw [HKK.out]; rfl
  have k3 : ((k : Int) == 3) = false := by rw [HKK.out]; rfl
  have k4 : ((k : Int) == 4) = false := by rw [HKK.out]; rfl
  have k5 : ((k : Int) == 5) = false := by rw [HKK.out]; rfl
  have k6 : ((k : Int) == 6) = true := by rw [HKK.out]; rfl
  have k7 : ((k : Int) == 7) = false := by rw [HKK.out]; rfl
  have k8 : ((k : Int) == 8) = false := by rw [HKK.out]; rfl
  obtain ⟨N, rq, dq⟩ : ∃ a b, nV 2 r2 = (a, b) := ⟨_, _, rfl⟩
  have DQ := Lib.hid dq
  have bN := nx2 dq
  clear dq
  have K2 := Lib.hid (gn2 G0.out hs (by omega) DQ.out)
  obtain ⟨x0, x1, x2, x3, x4, x5, x6, x7, x8⟩ := S0.out.nine
  simp only [O.zero] at x0 x1 x2 x3 x4 x5 x6 x7 x8
  go_upto_region 23 with (go_at_call 35; (with_reducible refine K2.out.mono ?_); rintro e v0 ⟨rfl, J0, U0⟩)
  have L0 : Hid (L6 W0 w v0 g h n B s k p N rq 0 [] rq nilV) := Lib.hid ⟨S0.out.read U0, J0.mono (by omega), Own.nil strS w (S0.out.read U0).t.size, rfl, (fun x hx => by cases hx), by simp⟩
  clear x0 x1 x2 x3 x4 x5 x6 x7 x8 k1 k2 k3 k4 k5 k6 k7 k8 K2 J0 U0 S0 G0
  go_wp2_with fail
  go_loopw [5] (fun j wr => ∃ (i : Nat) (xs : List ByteArray) (r' : Rd) (v : Value), j = .int .i64 i ∧ i ≤ N ∧ L6 W0 w wr g h n B s k p N rq i xs r' v) (fun j _ => N - (intOf j).toNat)
  case atStart => exact ⟨0, [], rq, nilV, rfl, Nat.zero_le _, L0.out⟩
  case round =>
    obtain ⟨i, xs, r', v, rfl, hi, L1⟩ := hrel
    have LL := Lib.hid L1
    have cb := L1.G.bad
    clear L0 L1
    by_cases hgo : i < N ∧ r' ≠ none
    · obtain ⟨hlt, hr⟩ := hgo
      obtain ⟨ad, cap, rfl⟩ := LL.out.O.shape
      obtain ⟨q, rfl⟩ : ∃ q, r' = some q := Option.ne_none_iff_exists'.1 hr
      simp only [Option.isNone_some] at cb
      clear hr
      have L2 := Lib.hid (LL.out.later (Below.refl _ _).drew)
      obtain ⟨t, q2, dt⟩ : ∃ a b, tV (some q) = (a, b) := ⟨_, _, rfl⟩
      have DT := Lib.hid dt
      have bt : t.size < 65536 := by have := tV_le (some q); rw [dt] at this; exact this
      clear dt
      have KT := Lib.hid (gtx (L2.out.G.good (B' := s.size) (by simp)) hs (by omega) DT.out)
      have hlen : xs.length + [t].length ≤ 1000000 := by have := LL.out.len; rw [this]; show i + 1 ≤ _; omega
      have HLEN := Lib.hid hlen
      clear hlen
      obtain ⟨x0, x1, x2, x3, x4, x5, x6, x7, x8⟩ := L2.out.S.nine
      have f5 := L2.out.S.free 5
      go_wp2_with fail
      go_region_law (first | (refine step_fn rfl (.func 56) [.tmp 80] #[76] rfl 56 [] (by simp [Act.eval]) _ Try.func56 (by kernel_rfl) (by kernel_rfl) KT.out (by simp [Act.eval, Act.put]) ?_; rintro e w5 ⟨rfl, J5, U5⟩; refine ⟨_, rfl, ?_⟩; have T5 := L2.out.took U5; clear x0 x1 x2 x3 x4 x5 x6 x7 x8 f5; obtain ⟨x0, x1, x2, x3, x4, x5, x6, x7, x8⟩ := T5.1.nine; have f5 := T5.1.free 5; have y5 := (T5.1.later (below_new w5 (.cells #[.string t] 9))).nine.2.2.2.2.2.1) | (refine step_app (S := strS) (W0 := w) (m := [t]) rfl (.tmp 79) (.tmp 82) rfl (T5.2.later (below_new _ _)) (one_src strS t) HLEN.out (by simp [Act.eval]) (by simp [Act.eval]) ?_; intro v7 w7 o7 g7; have M7 := (T5.1.later (below_new w5 (.cells #[.string t] 9))).grown (T5.2.later (below_new _ _)) g7; have G7 := (J5.later (below_new w5 (.cells #[.string t] 9))).grown hW L2.out.S.gl (T5.2.later (below_new _ _)) g7; have f7 := M7.free 5; have c7 := M7.nine.2.2.2.2.2.1; obtain ⟨ad7, cap7, rfl⟩ := o7.shape))
      all_goals
        have L8 : Hid (L6 W0 w (w7.setCell ⟨n, 5, none⟩ (.slice ad7 (xs.length + 1) cap7)) g h n B s k p N rq (i + 1) (xs ++ [t]) q2 (.slice ad7 (xs.length + 1) cap7)) := Lib.hid (L2.out.next hlt DT.out M7 G7 (by omega) (by rw [List.length_append] at o7; exact o7) bt hnn gn)
        clear x0 x1 x2 x3 x4 x5 x6 x7 x8 f5 y5 f7 c7 M7 G7 o7 g7 T5 J5 U5 KT L2 LL cb
        go_wp2_with fail
        go_roundw
        case rel => exact ⟨i + 1, _, _, _, by go_num, by omega, L8.out⟩
        case measure => simp [intOf]; omega
    · have hend : i = N ∨ r' = none := by
        by_cases h1 : i = N
        · exact .inl h1
        · exact .inr (Classical.byContradiction fun h2 => hgo ⟨by omega, h2⟩)
      have TT := Lib.hid LL.out.S
      obtain ⟨x0, x1, x2, x3, x4, x5, x6, x7, x8⟩ := TT.out.nine
      have FIN := Lib.hid (show OneP W0 w g B s r (.returned (oV (fillO k p xs) v)) (wr.setRow h (oC (fillO k p xs) v)) from by
        have hk := HKK.out
        subst hk
        exact one_end TT.out LL.out.G (by omega) hW (LL.out.result hk8 hp4 bN hi) (own_row LL.out.S LL.out.O) (LL.out.read hi E0.out DQ.out hend))
      obtain ⟨ad, cap, hv⟩ := LL.out.O.shape
      have hway : (i < N ∧ r'.isNone = true) ∨ ¬ i < N := by
        rcases hend with rfl | rfl
        · exact .inr (by omega)
        · by_cases h1 : i < N
          · exact .inl ⟨h1, rfl⟩
          · exact .inr h1
      clear hend hgo
      subst hv
      simp only [fillO] at x0 x1 x2 x3 x4 x6 x7 x8
      rcases hway with ⟨h1, h2⟩ | h1
      · rw [h2] at cb
        go_wp2_with (refine wpList_store_row rfl 26 _ _ rfl h (oC (fillO k p xs) (.slice ad xs.length cap)) rfl rfl 26 (oC O.zero nilV) TT.out.res info_op rfl (op_one _ rfl) ?_)
        exact bodyPost_ret (v := oV (fillO k p xs) (.slice ad xs.length cap)) (results_one Try.results36 _ _ h (oC (fillO k p xs) (.slice ad xs.length cap)) rfl (setRow_heap _ _ _ _ _ _ TT.out.res) Try.underlying26 info_op) rfl FIN.out
      · go_wp2_with (refine wpList_store_row rfl 26 _ _ rfl h (oC (fillO k p xs) (.slice ad xs.length cap)) rfl rfl 26 (oC O.zero nilV) TT.out.res info_op rfl (op_one _ rfl) ?_)
        exact bodyPost_ret (v := oV (fillO k p xs) (.slice ad xs.length cap)) (results_one Try.results36 _ _ h (oC (fillO k p xs) (.slice ad xs.length cap)) rfl (setRow_heap _ _ _ _ _ _ TT.out.res) Try.underlying26 info_op) rfl FIN.out

end Go.Proofs.Yticnbicnefnhbaa.Op
