/-
  Walks: parts of a slice, one behind the other: slices.Chunk, its iterator, slices.Clone; a loop over an iterator whose body may lay and change maps.
  Walks: Force: what its loop keeps.
-/
import Derived.RangeFuncNested
import Derived.RangeFuncBound
import Derived.RangeFuncCalls
import Derived.RangeFuncLeaves
import Derived.Shelf.RegionOpen
import Derived.OwnWalkIn
import Derived.TacticsInMore
import Derived.LoopNIn
import Derived.LoopIn
import Derived.OrdersIn
import Derived.OrdersHeld
import Derived.Test.YtgohpompgiljiaaZ7
namespace Go.Proofs.Ytgohpompgiljiaa.Sl
open Go.RowKit
open Go.Proofs.Ytgohpompgiljiaa.Seq (Shp all all_len all_one all_app all_at)
/-- a part, with no room behind it -/
theorem Sl.piece {P : Program} {α : Type} {S : Shp P α} {F : Nat → Prop} {w : World} {v : Value} {l : List α} (h : Sl S F w v l) {i j : Nat} (hij : i ≤ j) (hj : j ≤ l.length) :
    ∃ x, (∀ W : World, (Instr.sliceAt S.t v (some (.int .i64 (i : Int))) (some (.int .i64 (j : Int))) (some (.int .i64 (j : Int)))).run P W = .ok x W) ∧ ∀ (G : Nat → Prop) (w' : World), Sl S G w' v l → Sl S G w' x ((l.drop i).take (j - i)) := by
  obtain ⟨ad, c, rfl, h1, h2, _⟩ := h
  refine ⟨sliced ad i j j S.k, fun W => ?_, fun G w' hG => ?_⟩
  · rw [run_sliceAt_slice (P := P) W S.t _ _ _ _ S.elem, run_slice_lhm (P := P) W S.t _ _ _ S.elem .i64 .i64 .i64 (i : Int) (j : Int) (j : Int) (by omega) (by omega) (by omega) (by omega), S.size]
    rfl
  · obtain ⟨ad', c', hv, h1', h2', hc⟩ := hG
    simp only [Value.slice.injEq] at hv
    obtain ⟨rfl, _, rfl⟩ := hv
    have hlen : ((l.drop i).take (j - i)).length = j - i := by rw [List.length_take, List.length_drop]; omega
    unfold sliced
    refine ⟨_, j - i, by rw [hlen], by rw [hlen]; exact Nat.le_refl _, by omega, ?_⟩
    by_cases hji : j = i
    · exact .inl (by omega)
    rcases hc with rfl | ⟨g, o, rfl, hF, hg, ht, hcc⟩
    · exact .inl (by omega)
    · have e : (j - i) * S.k + i * S.k = j * S.k := by rw [← Nat.add_mul, Nat.sub_add_cancel hij]
      have e2 : j * S.k ≤ c * S.k := Nat.mul_le_mul_right _ (by omega)
      refine .inr ⟨g, o + i * S.k, ?_, hF, hg, fun q hq => ?_, fun q u hu => ?_⟩
      · rw [if_neg hji, Option.map_some, Addr.add_mid]
      · rw [Nat.add_assoc]
        exact ht _ (by omega)
      · have h3 : all S l = all S (l.take i) ++ (all S ((l.drop i).take (j - i)) ++ all S ((l.drop i).drop (j - i))) := by
          rw [← all_app, List.take_append_drop, ← all_app, List.take_append_drop]
        have hql := (List.getElem?_eq_some_iff.1 hu).1
        rw [Nat.add_assoc]
        refine hcc _ u ?_
        have h4 : (all S (l.take i)).length = i * S.k := by rw [all_len, List.length_take]; congr 1; omega
        rw [h3, List.getElem?_append_right (by rw [h4]; omega), h4, Nat.add_sub_cancel_left, List.getElem?_append_left hql]
        exact hu
end Go.Proofs.Ytgohpompgiljiaa.Sl

namespace Go.Proofs.Ytgohpompgiljiaa.Log
open Go.RowKit
open Go.Proofs.Ytgohpompgiljiaa.Sl (Sl Step re)
open Go.Proofs.Ytgohpompgiljiaa.Seq (byteS recS all all_byte)
attribute [local go_sem] Oper.semAt_some

/-! ### a loop over an iterator, that comes to its end -/
section
variable {F : Fence} {n : Nat} {P : Program}
/-- nothing is changed but the two blocks of a loop at B -/
def But (B : Nat) (W W' : World) : Prop := Disk.Touch (fun b => b = B ∨ b = B + 1) W W'
theorem But.putObj {B l : Nat} (hl : l = B ∨ l = B + 1) (W : World) (o : Obj) : But B W (W.putObj l o) :=
  ⟨rfl, rfl, rfl, by simp, fun b _ h => World.putObj_heap_other (fun e => h (by rw [e]; exact hl))⟩
theorem But.alloc {B : Nat} (W : World) (o : Obj) : But B W (W.alloc o) := (Disk.Touch.refl _ W).alloc o
theorem But.drew {B : Nat} (W : World) : But B W W.drew := (Disk.Touch.refl _ W).drew
set_option maxHeartbeats 1000000 in
theorem range_whole {g : Operand} {ps : Array Tmp} {assign body : Code} {Q : Exit → Go.Act → World → Prop} {a : Go.Act} {w : World}
    (hro : F.round = none) (h1 : 1 ≤ n) {gf : Nat} {lb : Array Value} (hg : a.eval g = .func (.func gf) #[] lb) (hFg : F.fn gf) (eg : ∀ args w, (callFunc gf args).run P w = .ok (.enter gf args) w)
    (X : Nat → Value → Prop) (N : Nat) (hps : ps.size = 1) (I : Nat → World → Prop) (hI : ∀ k W W', I k W → But w.heap.size W W' → I k W') (h0 : I 0 w)
    (hit : ∀ (l : Nat) (J : Nat → World → Prop) (W : World), (∀ k W, J k W → J k W.drew) → (∀ k W, J k W → I k W) →
      (∀ k x W1, J k W1 → X k x → YieldAt F (n - 1 - 1) P l #[x] W1 fun e W' => e = .returned (.bool true) ∧ J (k + 1) W') → J 0 W →
      CallsIn F (n - 1) P gf (#[.func (.yield l) #[] #[]] ++ lb) W fun e W' => (∃ v, e = .returned v) ∧ J N W')
    (hround : ∀ (l k : Nat) (x : Value) (W : World), X k x →
      assign.wpIn (F.inRound l) (n - 1 - 1) P (Exit.then (fun a₁ W1 => W1 = W ∧ ∀ W2 : World, w.heap.size + 2 ≤ W2.heap.size → I k W2 →
        body.wpIn (F.inRound l) (n - 1 - 1) P (fun e _ W' => e = .normal ∧ I (k + 1) W' ∧ W'.heap[w.heap.size]? = W2.heap[w.heap.size]? ∧ W'.heap[w.heap.size + 1]? = W2.heap[w.heap.size + 1]?) a₁ W2) (fun _ _ _ => False))
        { tmps := (ps.zip #[x]).foldl (fun t (p, v) => t.setIfInBounds p v) a.tmps, defers := [] } W)
    (hdone : ∀ (W : World), I N W → W.heap[w.heap.size]? = some (.deferred (some [])) → Q .normal { a with defers := { target := .collected w.heap.size, args := #[] } :: a.defers } W) :
    (Code.rangeFunc g ps assign body).wpIn F n P Q a w := by
  refine wpIn_rangeFunc ?_
  intro fn hfn
  rw [hro]
  obtain ⟨rec, hrec⟩ : ∃ rec : LoopState → Option Code → Loop, rec = fun st pe => { state := st, pending := pe, fn, tmps := a.tmps, params := ps, assign, body, defers := w.heap.size } := ⟨_, rfl⟩
  obtain ⟨W1, hW1⟩ : ∃ W1, (w.alloc (.deferred (some []))).alloc (.loop (rec .ready none)) = W1 := ⟨_, rfl⟩
  have hL1 : W1.heap[w.heap.size + 1]? = some (.loop (rec .ready none)) := by
    rw [← hW1]; have := World.alloc_heap_new (w.alloc (.deferred (some []))) (.loop (rec .ready none)); rwa [World.size_alloc] at this
  have hK1 : W1.heap[w.heap.size]? = some (.deferred (some [])) := by
    rw [← hW1]; exact (Below.heap_alloc _ _ _ (by simp)).trans (World.alloc_heap_new w _)
  have hI1 : I 0 W1 := by rw [← hW1]; exact hI _ _ _ (hI _ _ _ h0 (But.alloc _ _)) (But.alloc _ _)
  refine ⟨w.heap.size + 1, [{ target := .collected w.heap.size, args := #[] }], W1, { target := .fn (.func gf) lb, args := #[.func (.yield (w.heap.size + 1)) #[] #[]] }, W1, gf,
    #[.func (.yield (w.heap.size + 1)) #[] #[]] ++ lb, W1, ?_, ?_, ?_, ?_, fun _ => h1, ?_⟩
  · rw [← hW1, hrec]; exact run_enterLoop_outer _ _ _ _ _
  · simp only [resolve, hg]
    simp [go_sem]
  · intro f' hf'; simp [Target.leads] at hf'; subst hf'; exact hFg
  · simp [invoke, go_sem, eg]
  · refine (hit (w.heap.size + 1)
      (fun k W => I k W ∧ W.heap[w.heap.size + 1]? = some (.loop (rec .ready none)) ∧ W.heap[w.heap.size]? = some (.deferred (some [])))
      W1 (fun k W h => ⟨hI _ _ _ h.1 (But.drew W), h.2.1, h.2.2⟩) (fun k W h => h.1) ?_ ⟨hI1, hL1, hK1⟩).mono ?_
    · rintro k x W ⟨hi, hl, hk⟩ hx
      have hlt : w.heap.size + 1 < W.heap.size := (Array.getElem?_eq_some_iff.1 hl).1
      have hy := run_yield (P := P) (args := #[x]) hl (by rw [hrec]; exact hps.symm)
      rw [hrec] at hy
      refine ⟨fn, _, assign, body, hy, roundIn_of_wpIn hfn (wpIn_mono (hround _ k x W hx) ?_)⟩
      clear hy
      rintro e0 a0 W0 h00
      cases e0 with
      | normal =>
        obtain ⟨rfl, hbody⟩ := h00
        refine ⟨_, run_beginRound hl (by rw [hrec]), ?_⟩
        have hl2 : (W0.putObj (w.heap.size + 1) (.loop { rec .ready none with state := .busy })).heap[w.heap.size + 1]? = some (.loop { rec .ready none with state := .busy }) := World.putObj_heap_same hlt
        have hk2 : (W0.putObj (w.heap.size + 1) (.loop { rec .ready none with state := .busy })).heap[w.heap.size]? = some (.deferred (some [])) := (World.putObj_heap_other (by omega)).trans hk
        refine wpIn_mono (hbody _ (by simp; omega) (hI _ _ _ hi (But.putObj (.inr rfl) _ _))) ?_
        rintro e a3 W3 ⟨rfl, hi3, hk3, hl3⟩
        rw [hl2] at hl3
        rw [hk2] at hk3
        have hr := run_endRound (P := P) none hl3
        rw [hrec] at hr
        refine ⟨_, _, hr, ?_⟩
        refine ⟨rfl, hI _ _ _ hi3 (But.putObj (.inr rfl) _ _), ?_, ?_⟩
        · have := World.putObj_heap_same (o := .loop (rec .ready none)) (Array.getElem?_eq_some_iff.1 hl3).1
          rw [hrec] at this ⊢
          exact this
        · exact (World.putObj_heap_other (by omega)).trans hk3
      | ret => exact h00.elim
      | exit _ => exact h00.elim
      | goto _ => exact h00.elim
      | panic _ => exact h00.elim
      | outgrown => exact h00.elim
    · rintro e W2 ⟨⟨v, rfl⟩, hi, hl, hk⟩
      exact ⟨none, _, by have := run_endLoop (P := P) hl (by rw [hrec]; simp); rw [hrec] at this; exact this, hdone _ (hI _ _ _ hi (But.putObj (.inr rfl) _ _)) ((World.putObj_heap_other (by omega)).trans hk)⟩
end

/-! ### slices.Chunk -/
set_option maxRecDepth 100000 in
theorem chunk_new (v : Value) (a : Option Addr) (m c : Nat) (hv : v = .slice a m c) (w : World) : Calls Try.prog 32 #[v, .int .i64 110] w fun e w' =>
    e = .returned (.func (.func 54) #[] #[.pointer (some ⟨w.heap.size, 0, none⟩), .pointer (some ⟨w.heap.size + 1, 0, none⟩)]) ∧ w' = (w.alloc (.cells #[v] 55)).alloc (.cells #[.int .i64 110] 3) := by
  subst hv
  go_enter Try.func32, Try.ntmps32
  go_wp2_with fail
  go_ret
  exact ⟨rfl, rfl⟩

def numOf : Value → Nat
  | .int _ i => i.toNat
  | _ => 0
set_option maxRecDepth 100000 in
set_option maxHeartbeats 2000000 in
theorem chunk1_in (n : Nat) (hn : 1 ≤ n) (l B1 B2 : Nat) (v : Value) (t : List UInt8) (ht : t.length ≤ 1000000) (J : Nat → World → Prop)
    (hJ : ∀ k W, J k W → J k W.drew)
    (hB : ∀ k W, J k W → W.cell? ⟨B1, 0, none⟩ = some v ∧ W.cell? ⟨B2, 0, none⟩ = some (.int .i64 110) ∧ ∃ F, Sl byteS F W v t)
    (hY : ∀ k x W, J k W → (k < nch t ∧ ∀ (G : Nat → Prop) (W' : World), Sl byteS G W' v t → Sl byteS G W' x (ch t k)) → YieldAt Fence.wide (n - 1) Try.prog l #[x] W fun e W' => e = .returned (.bool true) ∧ J (k + 1) W')
    (W : World) (h0 : J 0 W) :
    CallsIn Fence.wide n Try.prog 54 #[.func (.yield l) #[] #[], .pointer (some ⟨B1, 0, none⟩), .pointer (some ⟨B2, 0, none⟩)] W fun e W' => (∃ v, e = .returned v) ∧ J (nch t) W' := by
  refine callsIn_of_wp Try.func54 rfl trivial ?_ rfl
  simp only [Try.ntmps54, List.size_toArray, List.length_cons, List.length_nil, Nat.reduceAdd, Nat.reduceSub, Array.replicate_succ, Array.replicate_zero, List.push_toArray, List.append_toArray, List.nil_append, List.cons_append]
  have h0' := hJ 0 W h0
  obtain ⟨_, _, _, hs0⟩ := hB 0 W h0
  obtain ⟨va, vn, vc, hv⟩ := hs0.shape3
  have hvn : vn = t.length := by
    obtain ⟨a', c', e'⟩ := hs0.shape
    rw [hv] at e'
    simp only [Value.slice.injEq] at e'
    exact e'.2.1
  have PC := Lib.hid (show ∀ i j, i ≤ j → j ≤ t.length → _ from fun i j h1 h2 => hs0.piece h1 h2 (i := i) (j := j))
  have DR := Lib.hid (show ∀ i, i ≤ t.length → _ from fun i h1 => hs0.drop h1 (k := i))
  have VN := Lib.hid hvn
  subst hv
  have hmix : Try.prog.follows Departure.mixedOrders = true := by kernel_rfl
  clear hs0
  gi_wp2
  gi_loopw [4] (fun r wr => ∃ k : Nat, r = .int .i64 ((110 * k : Nat) : Int) ∧ k ≤ nch t ∧ J k wr) (fun r _ => t.length + 110 - numOf r)
  case atStart => exact ⟨0, rfl, Nat.zero_le _, h0⟩
  case round =>
    obtain ⟨k, rfl, hk, hj⟩ := hrel
    obtain ⟨b1, b2, _⟩ := hB k wr hj
    obtain ⟨p, hp⟩ : ∃ p, p = 110 * k := ⟨_, rfl⟩
    have HP := Lib.hid hp
    have HN := Lib.hid (show nch t = (t.length + 109) / 110 from rfl)
    rw [← hp]
    clear h0 h0' hp
    by_cases hlt : p < vn
    · have x1 : decide ((p : Int) < (vn : Int)) = true := decide_eq_true (by omega)
      have x1' : decide (p < vn) = true := decide_eq_true (by omega)
      obtain ⟨y1, hy1, hs1⟩ := DR.out p (by omega)
      change ∀ W, (Instr.sliceAt 55 (.slice va vn vc) (some (.int .i64 (p : Int))) none none).run Try.prog W = .ok y1 W at hy1
      obtain ⟨a1, n1, c1, e1⟩ := hs1.shape3
      have hn1 : n1 = vn - p := by
        obtain ⟨a', c', e'⟩ := hs1.shape
        rw [e1] at e'
        simp only [Value.slice.injEq] at e'
        rw [e'.2.1, List.length_drop]; omega
      subst e1
      have N1 := Lib.hid hn1
      have HB := Lib.hid hB
      have HLT := Lib.hid hlt
      obtain ⟨E, hE⟩ : ∃ E, E = min 110 n1 := ⟨_, rfl⟩
      have hmin : min (110 : Int) (n1 : Int) = (E : Int) := by omega
      have EE := Lib.hid hE
      obtain ⟨q, hq⟩ : ∃ q, q = p + E := ⟨_, rfl⟩
      have hwq : IntKind.i64.wrap ((p : Int) + (E : Int)) = (q : Int) := (wrap_i64 (by omega) (by omega)).trans (by omega)
      have QQ := Lib.hid hq
      obtain ⟨x, hx, hx2⟩ := PC.out p q (by omega) (by omega)
      change ∀ W, (Instr.sliceAt 55 (.slice va vn vc) (some (.int .i64 (p : Int))) (some (.int .i64 (q : Int))) (some (.int .i64 (q : Int)))).run Try.prog W = .ok x W at hx
      have hX : k < nch t ∧ ∀ (G : Nat → Prop) (W' : World), Sl byteS G W' (.slice va vn vc) t → Sl byteS G W' x (ch t k) := by
        refine ⟨by rw [HN.out]; have := HP.out; omega, fun G W' h => ?_⟩
        have h2 := hx2 G W' h
        have : ch t k = (t.drop p).take (q - p) := by
          unfold ch
          rw [← HP.out]
          have hl2 : (t.drop p).length = t.length - p := List.length_drop
          by_cases h3 : t.length - p ≤ 110
          · rw [List.take_of_length_le (by omega), List.take_of_length_le (by omega)]
          · congr 1; omega
        rw [this]
        exact h2
      have hj1 := hJ k wr hj
      obtain ⟨fn, tmps, assign, body, hy, hR⟩ := hY k x _ hj1 hX
      have hwn : IntKind.i64.wrap ((p : Int) + 110) = ((p + 110 : Nat) : Int) := (wrap_i64 (by omega) (by omega)).trans (by omega)
      have NX := Lib.hid (show ∀ W, J (k + 1) W → (∃ k' : Nat, Value.int .i64 ((p + 110 : Nat) : Int) = .int .i64 ((110 * k' : Nat) : Int) ∧ k' ≤ nch t ∧ J k' W) ∧ t.length + 110 - numOf (.int .i64 ((p + 110 : Nat) : Int)) < t.length + 110 - numOf (.int .i64 (p : Int)) from fun W h => ⟨⟨k + 1, by rw [HP.out, Nat.mul_add], hX.1, h⟩, by
        show t.length + 110 - ((p + 110 : Nat) : Int).toNat < t.length + 110 - ((p : Int)).toNat
        omega⟩)
      clear DR PC hs1 hB hY hvn hn1 hE hq hx2 hj hj1 hX hlt
      gi_wp2_with fail
      gi_region
      try simp only [hmin]
      gi_wp2_with fail
      refine hR.mono ?_
      rintro e w4 ⟨rfl, j4⟩
      obtain ⟨d1, d2, _⟩ := HB.out _ _ j4
      have P4 := Lib.hid (NX.out _ j4)
      clear NX b1 b2 HB
      gi_wp2_with fail
      exact P4.out
    · have x1 : decide ((p : Int) < (vn : Int)) = false := decide_eq_false (by omega)
      have x1' : decide (p < vn) = false := decide_eq_false (by omega)
      have hkk : k = nch t := by rw [HN.out] at hk ⊢; have := HP.out; omega
      subst hkk
      clear DR PC hB hY hvn
      gi_wp2_with fail
      go_end0
      exact ⟨⟨_, rfl⟩, hj⟩

set_option maxRecDepth 100000 in
set_option maxHeartbeats 2000000 in
theorem clone_any {F : Nat → Prop} {w : World} {v : Value} {t : List UInt8} (h : Sl byteS F w v t) (ht : t.length ≤ 1000000) : Calls Try.prog 36 #[v] w fun e w' => ∃ x, e = .returned x ∧ Sl byteS (Disk.Fresh w w') w' x t ∧ Below w.heap.size w w' := by
  obtain ⟨a, c, rfl, h1, h2, h3⟩ := id h
  cases a with
  | none =>
    have ht0 : t = [] := by
      rcases h3 with rfl | ⟨g, o, ha, _⟩
      · exact List.eq_nil_of_length_eq_zero (by omega)
      · cases ha
    have N0 := Lib.hid (show ∀ W, Sl byteS (Disk.Fresh w W) W (.slice none 0 0) t from fun W => by rw [ht0]; exact Sl.nil _ _ _)
    have q := fun w => Lib.run_eql_slice_nil (P := Try.prog) w 55 5 none t.length c 0 0 Try.underlying55
    clear h h3 ht0
    generalize t.length = m at *
    go_enter Try.func36, Try.ntmps36
    go_wp2_with fail
    go_ret
    exact ⟨_, rfl, N0.out _, Below.refl _ _⟩
  | some g =>
    have HH := Lib.hid h
    have hB := Lib.hid (show Below w.heap.size w (w.alloc (.cells #[] 5)) from (Below.refl _ w).alloc (Nat.le_refl _) _)
    have KA := Lib.hid (Sl.app (F := fun b => b = w.heap.size) 55 (Sl.bare byteS (fun b => b = w.heap.size) (w.alloc (.cells #[] 5)) (some ⟨w.heap.size, 0, none⟩)) (h.later hB.out).src (by simp; omega))
    have PO := Lib.hid (show ∀ v' W, Sl byteS (Disk.grew (fun b => b = w.heap.size) (w.alloc (.cells #[] 5)) W) W v' ([] ++ t) → Disk.Touch (fun b => b = w.heap.size) (w.alloc (.cells #[] 5)) W → Sl byteS (Disk.Fresh w W) W v' t ∧ Below w.heap.size w W from fun v' W hs ht => by
      have hz := ht.size
      simp at hz
      refine ⟨?_, ?_⟩
      · rw [List.nil_append] at hs
        refine hs.mono fun b hb _ => ?_
        rcases hb with rfl | hb
        · exact ⟨Nat.le_refl _, by omega⟩
        · exact ⟨by have := hb.1; simp at this; omega, hb.2⟩
      · exact hB.out.trans ⟨ht.os, ht.tape, ht.output, by simpa using hz, fun x hx => ht.block x (by simp; omega) (by omega)⟩)
    obtain ⟨v', W, hr, hs, htt⟩ := KA.out
    have P2 := Lib.hid (PO.out _ _ hs htt)
    generalize t.length = m at *
    have HR := Lib.hid hr
    have q := fun w => Lib.run_eql_slice_nil (P := Try.prog) w 55 5 (some g) m c 0 0 Try.underlying55
    clear h h3 hs htt KA PO HH hr
    go_enter Try.func36, Try.ntmps36
    go_wp2_with (at_builtin; refine Disk.wpList_append_run rfl _ _ _ rfl 55 rfl _ _ _ W rfl rfl HR.out ?_)
    go_ret
    exact ⟨_, rfl, P2.out⟩

end Go.Proofs.Ytgohpompgiljiaa.Log

namespace Go.Proofs.Ytgohpompgiljiaa.Log
open Go.RowKit
open Go.Proofs.Ytgohpompgiljiaa.Sl (Sl Step re)
open Go.Proofs.Ytgohpompgiljiaa.Seq (byteS recS all all_byte)
open Go.Proofs.Ytgohpompgiljiaa.Disk (D Rep grew now)

/-! ### a region that draws its order, in a round of a loop: as outside of it -/
section
variable {P : Program} {ops : Array Oper} {Q : Exit → Go.Act → World → Prop} {md : Region.Mode} {l n : Nat}
theorem opIn_of_op {i : Nat} {K : Go.Act → World → Prop} {a : Go.Act} {w : World} (hL : ¬ LetsOut Q) (hd : ∀ (j : Nat) (o : Oper) c, ops[j]? = some o → o.op ≠ .defer c) (h : wpOp P ops Q i K a w) : wpOpIn (Fence.wide.inRound l) n P ops Q i K a w := by
  unfold wpOp at h
  unfold wpOpIn
  cases ho : ops[i]? with
  | none => simpa [ho] using h
  | some o =>
    simp only [ho] at h ⊢
    by_cases hw : Region.wanted o (yielded ops a.tmps) = true
    · rw [if_pos hw] at h ⊢
      rcases h with h | h
      · refine ⟨fun _ _ => trivial, ?_⟩
        rw [Oper.semAt_eq _ _ _ (fun c => hd i o c ho)]
        unfold Oper.wp at h
        generalize (execOp a.eval o).run P w = r at h ⊢
        cases r with
        | ok x w' =>
          cases x <;> simp only [Oper.upon] at h
          case value v => exact h
          case skip => exact h
          case defer d => exact h
          case enter f args => exact ⟨fun h0 => by simp [Fence.wide] at h0, CallsIn.inRound l (callsIn_wide.2 h)⟩
          case row row args => exact ⟨fun h0 => by simp [Fence.wide] at h0, fun c cs _ => by obtain ⟨v, w', r, s⟩ := h c cs; exact ⟨v, w', r, stepsIn_wide.2 s⟩⟩
        | halt x w' =>
          cases x <;> simp only [Oper.upon] at h
          case panic v => exact h
      · exact absurd h.2 hL
    · rw [if_neg hw] at h ⊢
      exact ⟨fun _ _ => trivial, h⟩
theorem anyIn_of_any (hL : ¬ LetsOut Q) (hd : ∀ (j : Nat) (o : Oper) c, ops[j]? = some o → o.op ≠ .defer c) : ∀ (fuel : Nat) (listed : Array Bool) (a : Go.Act) (w : World), wpAny P md ops Q fuel listed a w → wpAnyIn (Fence.wide.inRound l) n P md ops Q fuel listed a w
  | 0, _, _, _, h => h
  | fuel + 1, _, _, _, h => ⟨h.1, fun i hi => wpOpIn_mono (fun a' w' h' => anyIn_of_any hL hd fuel _ a' w' h') (opIn_of_op hL hd (h.2 i hi))⟩
def noDefer (o : Oper) : Bool := match o.op with
  | .defer _ => false
  | _ => true
theorem regionIn_held {S : World → Prop} {id : Nat} {a : Go.Act} {w : World} (hL : ¬ LetsOut Q) (hb : ops.all noDefer = true) (hm : P.follows .mixedOrders = true) (hS : S w.drew)
    (h : S w.drew → wpAnyH P .any ops Q S ops.size (Array.replicate ops.size false) a w.drew) : (Code.region id ops true).wpIn (Fence.wide.inRound l) n P Q a w :=
  wpIn_region_any hm (anyIn_of_any hL (fun j o c hj e => by
    have h1 := (Array.all_eq_true.1 hb) j (Array.getElem?_eq_some_iff.1 hj).1
    rw [(Array.getElem?_eq_some_iff.1 hj).2] at h1
    unfold noDefer at h1
    rw [e] at h1
    cases h1) _ _ _ _ (wpAny_of_held _ _ _ _ (h hS)))
end

/-! ### Force -/
/-- a disk on which the first parts of a text were written, one behind the other -/
def fcw (d : D) (a n k life : Nat) (t : List UInt8) : Nat → D
  | 0 => d
  | j + 1 => (fcw d a n k life t j).write (a + (k + j) % n) (secL (k + j) life (ch t j))
def fcD (d : D) (a : Nat) (g : G) (b : Nat) : D := if fcB g b then (fcw d a g.n (g.forced / 110) g.life g.tail (nch g.tail)).sync else d
def FcP (i q pd a : Nat) (T : Nat → Nat) (g : G) (b : Nat) (d : D) (w : World) (e : Ending) (w' : World) : Prop :=
  e = .returned (.int .i64 (fcE g b)) ∧ ∃ T', Lg i T' w' q pd a (fcG g b) ∧ Dk T' w' pd (fcD d a g b) ∧ Step (IO i) T T' w w'
theorem fcw_facts (d : D) (a n k life : Nat) (t : List UInt8) (hf : d.fuse = -1) : ∀ j, (fcw d a n k life t j).fuse = -1 ∧ (fcw d a n k life t j).loose.length = d.loose.length + j ∧ (fcw d a n k life t j).sure = d.sure
  | 0 => ⟨hf, rfl, rfl⟩
  | j + 1 => by
    obtain ⟨h1, h2, h3⟩ := fcw_facts d a n k life t hf j
    exact ⟨burnt_m1 h1, by show (_ ++ [_]).length = _; rw [List.length_append, h2]; rfl, h3⟩


/-! ### what is changed beside -/
theorem Lr.far {i q : Nat} {T : Nat → Nat} {w w' : World} {r : R} {rv tv : Value} (h : Lr i T w q r rv tv) (hs : w.heap.size ≤ w'.heap.size) (hk : ∀ b, (T b = i ∨ T b = i + 1 ∨ T b = i + 2) → w'.heap[b]? = w.heap[b]?) : Lr i T w' q r rv tv :=
  ⟨(hk q (.inl h.tq)).trans h.head, h.recs.far hs (fun b hb _ => hk b (.inr (.inl hb))), h.tail.far hs (fun b hb _ => hk b (.inr (.inr hb))), h.tq, fun b hb => Nat.lt_of_lt_of_le (h.lt b hb) hs, h.ipos⟩
theorem Touch.and {F : Nat → Prop} {w W W' : World} (h : Disk.Touch F w W) (b : Below w.heap.size W W') : Disk.Touch F w W' :=
  ⟨b.os.trans h.os, b.tape.trans h.tape, b.output.trans h.output, Nat.le_trans h.size b.size, fun x hx hn => (b.block x hx).trans (h.block x hx hn)⟩
theorem Step.and {I : Nat → Prop} {T T' : Nat → Nat} {w W W' : World} (h : Step I T T' w W) (b : Below w.heap.size W W') : Step I T T' w W' :=
  ⟨Touch.and h.touch b, h.old, fun x hx => (h.new x hx).imp id fun ⟨h1, h2⟩ => ⟨Nat.lt_of_lt_of_le h1 b.size, h2⟩⟩

/-- what lies from k on, k being an unsigned number -/
theorem dropU {v : Value} {F : Nat → Prop} {w : World} {l : List UInt8} (h : Sl byteS F w v l) {k : Nat} (hk : k ≤ l.length) :
    ∃ x, (∀ W : World, (Instr.sliceAt 55 v (some (.int .u64 (k : Int))) none none).run Try.prog W = .ok x W) ∧ Sl byteS F w x (l.drop k) := by
  obtain ⟨x, hx, hs⟩ := h.drop hk
  refine ⟨x, fun W => ?_, hs⟩
  obtain ⟨ad, c, rfl, h1, h2, _⟩ := h
  have h3 := hx W
  show (Instr.sliceAt byteS.t _ _ _ _).run Try.prog W = _
  rw [run_sliceAt_slice (P := Try.prog) W _ _ _ _ _ byteS.elem, run_slice_l (P := Try.prog) W _ _ _ _ byteS.elem .i64 (k : Int) (by omega) (by omega)] at h3
  rw [run_sliceAt_slice (P := Try.prog) W _ _ _ _ _ byteS.elem, run_slice_l (P := Try.prog) W _ _ _ _ byteS.elem .u64 (k : Int) (by omega) (by omega)]
  exact h3

theorem heap_alloc_if (w : World) (o : Obj) (k : Nat) : (w.alloc o).heap[k]? = if k = w.heap.size then some o else w.heap[k]? := by
  by_cases h : k = w.heap.size
  · subst h; rw [if_pos rfl]; exact World.alloc_heap_new w o
  · rw [if_neg h]
    by_cases h2 : k < w.heap.size
    · exact Below.heap_alloc _ _ _ h2
    · rw [Array.getElem?_eq_none (by simp; omega), Array.getElem?_eq_none (by omega)]

/-! ### between two rounds -/
structure FI (w : World) (T : Nat → Nat) (q pd a : Nat) (g : G) (d : D) (tv : Value) (k : Nat) (W : World) : Prop where
  rep : ∃ F', Rep W pd (fcw d a g.n (g.forced / 110) g.life g.tail k) F' ∧ (∀ b, b < w.heap.size → (F' b ↔ T b = 1)) ∧ (∀ b, F' b → b < w.heap.size ∨ w.heap.size + 7 ≤ b)
  touch : Disk.Touch (fun b => T b = 1) w W
  r0 : W.heap[w.heap.size]? = some (.cells #[.pointer (some ⟨q, 0, none⟩)] 29)
  r1 : W.heap[w.heap.size + 1]? = some (.cells #[.int .i64 0] 39)
  r2 : W.heap[w.heap.size + 2]? = some (.cells #[.int .u64 ((g.forced / 110 + k : Nat) : Int)] 27)
  r3 : W.heap[w.heap.size + 3]? = some (.cells #[tv] 55)
  r4 : W.heap[w.heap.size + 4]? = some (.cells #[.int .i64 110] 3)
section
variable {w : World} {T : Nat → Nat} {q pd a : Nat} {g : G} {d : D} {tv : Value} {k : Nat} {W W' : World}
theorem FI.big (h : FI w T q pd a g d tv k W) : w.heap.size + 5 ≤ W.heap.size := (Array.getElem?_eq_some_iff.1 h.r4).1
theorem FI.but (h : FI w T q pd a g d tv k W) (t : But (w.heap.size + 5) W W') : FI w T q pd a g d tv k W' := by
  obtain ⟨F', h1, h2, h3⟩ := h.rep
  have hb := h.big
  have keep : ∀ b, b < W.heap.size → b ≠ w.heap.size + 5 → b ≠ w.heap.size + 6 → W'.heap[b]? = W.heap[b]? := fun b hb h5 h6 => t.block b hb (by omega)
  refine ⟨⟨F', h1.far t.size (fun b hb => keep b (h1.below b hb) (by have := h3 b hb; omega) (by have := h3 b hb; omega)), h2, h3⟩, ?_, ?_, ?_, ?_, ?_, ?_⟩
  · exact h.touch.trans t (fun x hx hg => by omega)
  · exact (keep _ (by omega) (by omega) (by omega)).trans h.r0
  · exact (keep _ (by omega) (by omega) (by omega)).trans h.r1
  · exact (keep _ (by omega) (by omega) (by omega)).trans h.r2
  · exact (keep _ (by omega) (by omega) (by omega)).trans h.r3
  · exact (keep _ (by omega) (by omega) (by omega)).trans h.r4
/-- the log and the disk, as they are there -/
theorem FI.view {i : Nat} {r : R} {rv : Value} (h : FI w T q pd a g d tv k W) (hL : Lr i T w q r rv tv) (hi : 2 ≤ i) :
    ∃ T', Lr i T' W q r rv tv ∧ Dk T' W pd (fcw d a g.n (g.forced / 110) g.life g.tail k) ∧ Step (· = 1) T T' w W ∧ (∀ b, w.heap.size ≤ b → b < w.heap.size + 7 → T' b = 0) := by
  classical
  obtain ⟨F', h1, h2, h3⟩ := h.rep
  refine ⟨fun b => if b < w.heap.size then T b else if F' b then 1 else 0, ?_⟩
  have s : Step (· = 1) T (fun b => if b < w.heap.size then T b else if F' b then 1 else 0) w W := by
    refine ⟨h.touch, fun b hb => if_pos hb, fun b hb => ?_⟩
    show (if b < w.heap.size then T b else if F' b then 1 else 0) = 0 ∨ (b < W.heap.size ∧ (if b < w.heap.size then T b else if F' b then 1 else 0) = 1)
    rw [if_neg (by omega)]
    by_cases hF : F' b
    · rw [if_pos hF]; exact .inr ⟨h1.below b hF, rfl⟩
    · rw [if_neg hF]; exact .inl rfl
  refine ⟨hL.step s (by omega) (by omega) (by omega) (by omega), ?_, s, fun b hb hb2 => ?_⟩
  · refine h1.mono (fun b hb => ?_) (fun b hb => ?_)
    · show (if b < w.heap.size then T b else if F' b then 1 else 0) = 1
      by_cases hlt : b < w.heap.size
      · rw [if_pos hlt]; exact (h2 b hlt).1 hb
      · rw [if_neg hlt, if_pos hb]
    · exact s.lt hL.lt (by omega) b (by rw [show (if b < w.heap.size then T b else if F' b then 1 else 0) = 1 from hb]; decide)
  · show (if b < w.heap.size then T b else if F' b then 1 else 0) = 0
    rw [if_neg (by omega), if_neg (fun hF => by have := h3 b hF; omega)]
/-- behind a round -/
theorem FI.next {T1 : Nat → Nat} {W1 : World} (h : FI w T q pd a g d tv k W) (h7 : w.heap.size + 7 ≤ W.heap.size) (h0 : ∀ b, w.heap.size ≤ b → b < w.heap.size + 7 → T1 b = 0) (ho : ∀ b, b < w.heap.size → T1 b = T b)
    (hr : Rep W1 pd (fcw d a g.n (g.forced / 110) g.life g.tail (k + 1)) (grew (fun b => T1 b = 1) W W1)) (t : Disk.Touch (fun b => T1 b = 1) W W1) :
    FI w T q pd a g d tv (k + 1) (W1.setCell ⟨w.heap.size + 2, 0, none⟩ (.int .u64 ((g.forced / 110 + (k + 1) : Nat) : Int))) := by
  have hz := t.size
  have keep : ∀ b, w.heap.size ≤ b → b < w.heap.size + 5 → W1.heap[b]? = W.heap[b]? := fun b h1 h2 => t.block b (by omega) (by show ¬ T1 b = 1; rw [h0 b h1 (by omega)]; decide)
  have set : ∀ b, b ≠ w.heap.size + 2 → (W1.setCell ⟨w.heap.size + 2, 0, none⟩ (.int .u64 ((g.forced / 110 + (k + 1) : Nat) : Int))).heap[b]? = W1.heap[b]? := fun b hb => Below.heap_setCell _ _ _ _ hb
  refine ⟨⟨_, hr.far (by simp) (fun b hb => set b ?_), fun b hb => ?_, fun b hb => ?_⟩, ?_, ?_, ?_, ?_, ?_, ?_⟩
  · rintro rfl
    rcases hb with hb | hb
    · have h9 := h0 (w.heap.size + 2) (by omega) (by omega)
      change T1 (w.heap.size + 2) = 1 at hb
      omega
    · omega
  · refine ⟨fun hg => ?_, fun hg => .inl ?_⟩
    · rcases hg with hg | hg
      · rw [← ho b hb]; exact hg
      · omega
    · show T1 b = 1; rw [ho b hb]; exact hg
  · by_cases hlt : b < w.heap.size
    · exact .inl hlt
    · refine .inr ?_
      rcases hb with hb | hb
      · by_cases h8 : b < w.heap.size + 7
        · have := h0 b (by omega) h8; omega
        · omega
      · omega
  · refine Touch.and (h.touch.trans t (fun x hx hg => by rw [← ho x hx]; exact hg)) ?_
    exact (Below.refl _ W1).setCell (p := ⟨w.heap.size + 2, 0, none⟩) (by show w.heap.size ≤ w.heap.size + 2; omega) _
  · exact (set _ (by omega)).trans ((keep _ (by omega) (by omega)).trans h.r0)
  · exact (set _ (by omega)).trans ((keep _ (by omega) (by omega)).trans h.r1)
  · rw [heap_setCell_same W1 (w.heap.size + 2) 0 _ _ _ ((keep _ (by omega) (by omega)).trans h.r2)]
    rfl
  · exact (set _ (by omega)).trans ((keep _ (by omega) (by omega)).trans h.r3)
  · exact (set _ (by omega)).trans ((keep _ (by omega) (by omega)).trans h.r4)
end

end Go.Proofs.Ytgohpompgiljiaa.Log
