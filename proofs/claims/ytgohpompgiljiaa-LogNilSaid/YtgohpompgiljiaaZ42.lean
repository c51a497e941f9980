/-
  Walks: the iterator over frames.
-/
import Derived.RangeFuncNested
import Derived.RangeFuncBound
import Derived.RangeFuncCalls
import Derived.RangeFuncLeaves
import Derived.Shelf.RegionOpen
import Derived.OwnWalkIn
import Derived.TacticsInMore
import Derived.LoopNIn
import Derived.LoopIn
import Derived.Test.YtgohpompgiljiaaZ24
import Derived.Test.YtgohpompgiljiaaZ37
namespace Go.Proofs.Ytgohpompgiljiaa.Frame
open Go.RowKit
attribute [local go_sem] Oper.semAt_some

theorem not_empty {s : ByteArray} (h : 0 < s.size) : s.toList.isEmpty = false := by
  rw [List.isEmpty_eq_false_iff]
  intro e
  rw [Lib.toList_data] at e
  have : s.data.toList.length = 0 := by rw [e]; rfl
  have h2 : s.data.toList.length = s.size := rfl
  omega
def lenOf : Value → Nat
  | .string s => s.size
  | _ => 0
def encR (x : ByteArray × Nat) : Array Value := #[.string (clip x.1), .int .i64 (x.2 : Int)]
theorem grown_below {w w' : World} (h : Below w.heap.size w w') (row : Option Nat) : w.grownBy w' row := ⟨h.os, h.tape, h.output, h.size, fun k hk _ => h.block k hk⟩

set_option maxRecDepth 100000 in
set_option maxHeartbeats 2000000 in
theorem frames1_in (n : Nat) (hn : 1 ≤ n) (l B1 B2 : Nat) (s : ByteArray) (lsn : Nat) (hb : lsn + s.size < 18446744073709551616) (hs : s.size ≤ 100000) (J Jx : List (ByteArray × Nat) → World → Prop)
    (hJ : ∀ ys W W', J ys W → Below W.heap.size W W' → J ys W')
    (hY : ∀ pre x W, J pre W → pre.length < s.size → YieldAt Fence.wide (n - 1) Try.prog l (encR x) W fun e W' =>
      (e = .returned (.bool true) ∧ J (pre ++ [x]) W' ∧ True) ∨ (e = .returned (.bool false) ∧ Jx (pre ++ [x]) W'))
    (W : World) (c1 : W.cell? ⟨B1, 0, none⟩ = some (.string s)) (c2 : W.cell? ⟨B2, 0, none⟩ = some (.int .u64 (lsn : Int))) (h0 : J [] W) :
    CallsIn Fence.wide n Try.prog 76 #[.func (.yield l) #[] #[], .pointer (some ⟨B1, 0, none⟩), .pointer (some ⟨B2, 0, none⟩)] W fun e W' => (∃ v, e = .returned v) ∧
      ((∃ ys, AllF s lsn ys ∧ J ys W') ∨ (∃ pre, PartF s lsn pre ∧ Jx pre W')) := by
  refine callsIn_of_wp Try.func76 rfl trivial ?_ rfl
  simp only [Try.ntmps76, List.size_toArray, List.length_cons, List.length_nil, Nat.reduceAdd, Nat.reduceSub, Array.replicate_succ, Array.replicate_zero, List.push_toArray, List.append_toArray, List.nil_append, List.cons_append]
  have h0' := hJ [] W W.drew h0 (Below.refl _ W).drew
  have D := Lib.hid (fun u W (hu : u ≤ s.size) => fdecode_any (s.extract u s.size) (up lsn u) W (up_lt _ _) (by rw [cut_size _ _ hu]; omega))
  have hmix : Try.prog.follows Departure.mixedOrders = true := by kernel_rfl
  have A0 := Lib.hid (Ats.start s (lsn := lsn) (by omega))
  gi_wp2
  gi_region
  gi_wp2
  gi_loopw [4, 5] (fun r t wr => ∃ (xs : List ByteArray) (u : Nat), r = .string (s.extract u s.size) ∧ t = .int .u64 (up lsn u : Int) ∧ Ats s lsn xs u ∧ J (xs.map fine) wr) (fun r _ _ => lenOf r)
  case atStart => exact ⟨[], 0, by rw [cut_all], by rw [up_zero (by omega)], A0.out, h0'⟩
  case round =>
    obtain ⟨xs, u, rfl, rfl, ha, hj⟩ := hrel
    have A := Lib.hid ha
    have hle := ha.a.le
    have hxs := ha.a.len
    clear ha c1 c2 h0 h0' A0
    have DD := Lib.hid (fun W => D.out u W hle)
    have HC := Lib.hid (show (s.extract u s.size).size = s.size - u from cut_size _ _ hle)
    by_cases hlt : u < s.size
    · have P := Lib.hid (fun d => A.out.part hlt d)
      have HS := Lib.hid (fun he => A.out.step he)
      have HP := Lib.hid (fun he => decU_pos (t := s.extract u s.size) (lsn := up lsn u) he)
      have hlen : (xs.map fine).length < s.size := by rw [List.length_map]; omega
      have UP := Lib.hid (fun U (h : u + U ≤ s.size) => (show beh (up lsn u) U = up lsn (u + U) by
        rw [beh_of (by rw [up_of (by omega)]; omega), up_up]))
      have KB := Lib.hid (fun U W (h : U ≤ 100000) => behind_any (up lsn u) U W (up_lt _ _) h)
      have CC := Lib.hid (fun d (h : u + d ≤ s.size) => cut_cut s u d h)
      obtain ⟨T, hT⟩ : ∃ T, T = s.extract u s.size := ⟨_, rfl⟩
      rw [← hT] at DD P HS HP HC CC
      have n1 : T.toList.isEmpty = false := not_empty (by have := HC.out; omega)
      have n2 : ¬ T.toList = [] := by rw [← List.isEmpty_iff, n1]; decide
      rw [← hT]
      clear hT D A
      generalize hQ : up lsn u = Q at *
      have BD := Lib.hid (fun d e (he : e ≠ 0) => Ats.bad (s := s) (lsn := lsn) (xs := xs) (d := d) (e := e) he)
      obtain ⟨E, hE⟩ : ∃ E, E = decE T Q := ⟨_, rfl⟩
      rw [← hE] at DD P HS HP
      clear hE
      have hcl : clip (decS T Q) = decS T Q := clip_of (decS_le _ _)
      generalize decS T Q = X at *
      generalize decU T Q = U at *
      by_cases he : E = 0
      · have hU := HP.out he
        have A2 := Lib.hid (HS.out he)
        have hu := HC.out
        have e4 : U ≤ T.size := hU.2
        have KB1 := Lib.hid (fun W => KB.out U W (by omega))
        rw [UP.out U (by omega)] at KB1
        have CC1 := CC.out U (by omega)
        subst he
        clear HS HP BD KB UP CC hu
        gi_wp2_with fail
        refine ⟨trivial, (callsIn_wide.2 (DD.out _)).mono ?_⟩
        rintro e w3 ⟨rfl, b3⟩
        have j3 := hJ _ _ _ hj b3
        obtain ⟨fn, tmps, assign, body, hy, hR⟩ := hY _ (X, 0) w3 j3 hlen
        unfold encR at hy
        simp only [hcl] at hy
        replace hy : (Instr.yield l #[.string X, .int .i64 0]).run Try.prog w3 = .ok (.round l fn tmps assign body) w3 := hy
        clear DD hj b3
        gi_wp2_with fail
        refine hR.mono ?_
        rintro e w4 (⟨rfl, j4, _⟩ | ⟨rfl, j4⟩)
        · have j5 := hJ _ _ _ j4 (Below.refl _ _).drew
          gi_wp2_with fail
          gi_region_with_o (refine ⟨trivial, ?_⟩; gi_at_call 78; refine (callsIn_wide.2 (KB1.out _)).mono ?_; rintro e w5 ⟨rfl, rfl⟩)
          go_simp
          gi_wp2_with fail
          exact ⟨⟨xs ++ [X], u + U, rfl, rfl, A2.out, by rw [List.map_append]; exact j5⟩, by show (s.extract (u + U) s.size).size < T.size; rw [ByteArray.size_extract]; have := HC.out; omega⟩
        · gi_wp2_with fail
          refine bodyPost_ret (results_none rfl _ _ _) rfl ?_
          exact ⟨⟨_, rfl⟩, .inr ⟨_, P.out X, j4⟩⟩
      · have BB := Lib.hid (BD.out X E he)
        have f1 : ((E : Int) == 0) = false := by rw [beq_eq_false_iff_ne]; omega
        have f2 : ((E : Int) != 0) = true := by rw [bne, f1]; rfl
        clear HS HP BD KB UP CC
        gi_wp2_with fail
        refine ⟨trivial, (callsIn_wide.2 (DD.out _)).mono ?_⟩
        rintro e w3 ⟨rfl, b3⟩
        have j3 := hJ _ _ _ hj b3
        obtain ⟨fn, tmps, assign, body, hy, hR⟩ := hY _ (X, E) w3 j3 hlen
        unfold encR at hy
        simp only [hcl] at hy
        replace hy : (Instr.yield l #[.string X, .int .i64 (E : Int)]).run Try.prog w3 = .ok (.round l fn tmps assign body) w3 := hy
        clear DD hj b3
        gi_wp2_with fail
        refine hR.mono ?_
        rintro e w4 (⟨rfl, j4, _⟩ | ⟨rfl, j4⟩)
        · gi_wp2_with fail
          refine bodyPost_ret (results_none rfl _ _ _) rfl ?_
          exact ⟨⟨_, rfl⟩, .inl ⟨_, BB.out, j4⟩⟩
        · gi_wp2_with fail
          refine bodyPost_ret (results_none rfl _ _ _) rfl ?_
          exact ⟨⟨_, rfl⟩, .inr ⟨_, P.out X, j4⟩⟩
    · have LL := Lib.hid (A.out.all hlt)
      obtain ⟨T, hT⟩ : ∃ T, T = s.extract u s.size := ⟨_, rfl⟩
      rw [← hT] at HC
      have e0 : T = ⟨#[]⟩ := by
        apply L_ext
        have : (L T).length = 0 := by rw [L_len, HC.out]; omega
        exact List.eq_nil_of_length_eq_zero this
      rw [← hT, e0]
      clear hT e0 D A DD HC
      gi_wp2_with fail
      go_end0
      exact ⟨⟨_, rfl⟩, .inl ⟨_, LL.out, hj⟩⟩

set_option maxRecDepth 100000 in
theorem frames_any (s : ByteArray) (lsn : Nat) (w : World) : Calls Try.prog 72 #[.string s, .int .u64 (lsn : Int)] w fun e w' =>
    e = .returned (.func (.func 76) #[] #[.pointer (some ⟨w.heap.size, 0, none⟩), .pointer (some ⟨w.heap.size + 1, 0, none⟩)]) ∧ w' = (w.alloc (.cells #[.string s] 9)).alloc (.cells #[.int .u64 (lsn : Int)] 27) := by
  go_enter Try.func72, Try.ntmps72
  go_wp2_with fail
  go_ret
  exact ⟨rfl, rfl⟩

/-- the iterator's contract -/
theorem frames_stops (n : Nat) (hn : 1 ≤ n) (B1 B2 : Nat) (s : ByteArray) (lsn : Nat) (hb : lsn + s.size < 18446744073709551616) (hs : s.size ≤ 100000) (w : World) (c1 : w.cell? ⟨B1, 0, none⟩ = some (.string s)) (c2 : w.cell? ⟨B2, 0, none⟩ = some (.int .u64 (lsn : Int))) :
    SeqStopsK Fence.wide n Try.prog 76 #[.pointer (some ⟨B1, 0, none⟩), .pointer (some ⟨B2, 0, none⟩)] encR (fun _ _ => True) (AllF s lsn) (PartF s lsn) s.size w := fun l J Jx W hW hJ _ hY h0 =>
  frames1_in n hn l B1 B2 s lsn hb hs J Jx (fun ys W W' hj b => hJ ys W W' none hj (grown_below b none) (fun r e => by cases e)) hY W ((hW.cell (p := ⟨B1, 0, none⟩) (World.block_lt_of_cell? _ _ c1)).trans c1) ((hW.cell (p := ⟨B2, 0, none⟩) (World.block_lt_of_cell? _ _ c2)).trans c2) h0

end Go.Proofs.Ytgohpompgiljiaa.Frame
