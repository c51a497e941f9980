/-
  Walks: an op that is read (the document): any kind.
  Walks: a list of ops that is read (the document): what is kept meanwhile.
  Walks: a list of ops that is read (the document).
  What the code's ops hand back.
  Walks: has an op only what its kind has; may it be.
  Walks: may an op be.
-/
import Derived.Test.YticnbicnefnhbaaZ21
import Derived.Test.YticnbicnefnhbaaZ22
import Derived.Test.YticnbicnefnhbaaZ23
import Derived.Test.YticnbicnefnhbaaZ3
import Derived.Test.YticnbicnefnhbaaZ8
namespace Go.Proofs.Yticnbicnefnhbaa.Op
open Go.RowKit
open Go.Proofs.Yticnbicnefnhbaa.By

theorem gone_any {W0 w : World} {g B : Nat} {s : ByteArray} {r : Rd} (G : Gt W0 w g B s r) (hs : s.size ≤ 100000) (hB : s.size ≤ B ∧ B ≤ 800000000) :
    Calls Try.prog 36 #[.pointer (some ⟨g, 0, none⟩)] w (OneP W0 w g B s r) := by
  rcases (show (nV 1 r).1 = 1 ∨ (nV 1 r).1 = 2 ∨ (nV 1 r).1 = 3 ∨ (nV 1 r).1 = 4 ∨ (nV 1 r).1 = 5 ∨ (nV 1 r).1 = 6 ∨ (nV 1 r).1 = 7 ∨ (nV 1 r).1 = 8 ∨ ((nV 1 r).1 = 0 ∨ 8 < (nV 1 r).1) by omega) with h | h | h | h | h | h | h | h | h
  · exact gone1 G hs hB h
  · exact gone2 G hs hB h
  · exact gone3 G hs hB h
  · exact gone4 G hs hB h
  · exact gone5 G hs hB h
  · exact gone6 G hs hB h
  · exact gone7 G hs hB h
  · exact gone8 G hs hB h
  · exact gone9 G hs hB h

end Go.Proofs.Yticnbicnefnhbaa.Op

namespace Go.Proofs.Yticnbicnefnhbaa.Op
open Go.RowKit
open Go.Proofs.Yticnbicnefnhbaa.Seq (strS Is Own)
open Go.Proofs.Yticnbicnefnhbaa.By

/-- what bytes are: a list, and the error -/
def decE (s : ByteArray) : Nat := if (decL s).isSome then 0 else 7
def decR (s : ByteArray) : List O := (decL s).getD []
def DecP (w : World) (s : ByteArray) : Ending → World → Prop := fun e w' => ∃ v, e = .returned (.tuple #[v, .int .i64 (decE s : Int)]) ∧ Ops w' v (decR s) ∧ Below w.heap.size w w'
theorem Ops.nil (w : World) : Ops w nilV [] := ⟨[], rfl, Is.nil w, fun x hx => by cases hx⟩
theorem DecP.bad {w w' : World} {s : ByteArray} (h : decL s = none) (b : Below w.heap.size w w') : DecP w s (.returned (.tuple #[nilV, .int .i64 7])) w' := by
  refine ⟨nilV, ?_, ?_, b⟩
  · unfold decE; rw [h]; rfl
  · unfold decR; rw [h]; exact Ops.nil w'
theorem DecP.ok {w w' : World} {s : ByteArray} {l : List O} {v : Value} (h : decL s = some l) (hv : Ops w' v l) (b : Below w.heap.size w w') : DecP w s (.returned (.tuple #[v, .int .i64 0])) w' := by
  refine ⟨v, ?_, ?_, b⟩
  · unfold decE; rw [h]; rfl
  · unfold decR; rw [h]; exact hv

theorem own_base {α : Type} {S : Seq.Shp Try.prog α} {W0 W1 w : World} {v : Value} {l : List α} (h : Own S W1 w v l) (hs : W0.heap.size ≤ W1.heap.size) : Own S W0 w v l := by
  refine ⟨⟨h.own.1, ?_⟩, Nat.le_trans hs h.size⟩
  rcases h.own.2 with ⟨h1, h2⟩ | ⟨g, cap, cur, h1, h2, h3⟩
  · exact .inl ⟨h1, h2⟩
  · exact .inr ⟨g, cap, cur, h1, Nat.le_trans hs h2, h3⟩
/-- an op whose rows were made behind block g -/
structure Fr (w wr : World) (g : Nat) (o : O) (u : Value) : Prop where
  i : In wr o u
  o : ∃ W1 : World, g < W1.heap.size ∧ w.heap.size ≤ W1.heap.size ∧ Own strS W1 wr u o.rows
section
variable {w wr w' : World} {g : Nat} {o : O} {u v : Value}
theorem Fr.own (F : Fr w wr g o u) {W1 : World} (h1 : g < W1.heap.size) (h2 : w.heap.size ≤ W1.heap.size) (h : Own strS W1 w' u o.rows) : Fr w w' g o u := ⟨⟨F.i.wf, F.i.a, F.i.f, F.i.text, h.is, F.i.len, F.i.each⟩, W1, h1, h2, h⟩
theorem Fr.later (F : Fr w wr g o u) (b : Below wr.heap.size wr w') : Fr w w' g o u := by
  obtain ⟨W1, h1, h2, h3⟩ := F.o
  exact F.own h1 h2 (h3.later b)
theorem Fr.touch (F : Fr w wr g o u) (U : Touch (fun x => x = g) wr w') : Fr w w' g o u := by
  obtain ⟨W1, h1, h2, h3⟩ := F.o
  exact F.own h1 h2 (h3.far U.size fun x hx => U.block x (h3.lt x hx).2 (by have := (h3.lt x hx).1; omega))
theorem Fr.grown (F : Fr w wr g o u) {q : List (O × Sl)} (k : Own opS w wr v q) (gw : wr.grownBy w' v.ownBlock) : Fr w w' g o u := by
  obtain ⟨W1, h1, h2, h3⟩ := F.o
  have e : strS.e ≠ opS.e := by decide
  exact F.own h1 h2 (h3.far gw.size fun x hx => gw.block x (h3.lt x hx).2 ((own_base h3 h2).apart k e x hx))
end
/-- i ops of n have been read: xs, in the slice v; what is left: r -/
structure Dq (w wr : World) (g : Nat) (s : ByteArray) (n : Nat) (r0 : Rd) (xs : List O) (r : Rd) (v : Value) : Prop where
  G : Gt w wr g (s.size + 200000) s r
  q : ∃ q : List (O × Sl), q.map (·.1) = xs ∧ Own opS w wr v q ∧ ∀ x ∈ q, Fr w wr g x.1 x.2.1
  R : Rdg n r0 xs r
section
variable {w wr w' : World} {g n : Nat} {s : ByteArray} {r0 r r' : Rd} {xs : List O} {v v' : Value}
theorem Dq.shape (D : Dq w wr g s n r0 xs r v) : ∃ ad cap, v = .slice ad xs.length cap := by
  obtain ⟨q, rfl, h, _⟩ := D.q
  obtain ⟨ad, cap, hv⟩ := h.shape
  exact ⟨ad, cap, by rw [hv, List.length_map]⟩
theorem Dq.ops (D : Dq w wr g s n r0 xs r v) : Ops wr v xs := by
  obtain ⟨q, h1, h2, h3⟩ := D.q
  exact ⟨q, h1, h2.is, fun x hx => (h3 x hx).i⟩
/-- an op was read -/
theorem Dq.touch (D : Dq w wr g s n r0 xs r v) (U : Touch (fun x => x = g) wr w') : ∃ q : List (O × Sl), q.map (·.1) = xs ∧ Own opS w w' v q ∧ ∀ x ∈ q, Fr w w' g x.1 x.2.1 := by
  obtain ⟨q, h1, h2, h3⟩ := D.q
  obtain ⟨a, b, hb, _⟩ := D.G
  have e : (78 : TypeId) ≠ opS.e := by decide
  exact ⟨q, h1, h2.far U.size fun x hx => U.block x (h2.lt x hx).2 fun e2 => h2.ne hb.box e x hx e2, fun x hx => (h3 x hx).touch U⟩
end
def mkSl (ad : Option Addr) (n cap : Nat) : Sl := ⟨.slice ad n cap, rfl⟩
theorem Gt.grownO {w wr w' : World} {g B : Nat} {s : ByteArray} {r : Rd} {v : Value} {q : List (O × Sl)} (G : Gt w wr g B s r) (k : Own opS w wr v q) (gw : wr.grownBy w' v.ownBlock) : Gt w w' g B s r := by
  have e : (78 : TypeId) ≠ opS.e := by decide
  obtain ⟨a, b, h1, h2⟩ := G
  exact ⟨a, b, h1.far ((Below.refl w.heap.size wr).grown gw h1.below.size fun x hx => (k.lt x hx).1) (gw.block g (Array.getElem?_eq_some_iff.1 h1.box).1 fun e2 => k.ne h1.box e g e2.symm rfl), h2⟩
/-- reading begins -/
theorem Gt.start (w : World) (s : ByteArray) : Gt w (w.alloc (.cells #[.string s, .int .i64 0, .bool false] 78)) w.heap.size s.size s (some (L s)) :=
  ⟨0, false, ⟨heap_alloc_new w _, Nat.le_refl _, below_new w _⟩, .inl ⟨rfl, Nat.zero_le _, by rw [List.drop_zero]⟩⟩

end Go.Proofs.Yticnbicnefnhbaa.Op

namespace Go.Proofs.Yticnbicnefnhbaa.Op
open Go.RowKit
open Go.Proofs.Yticnbicnefnhbaa.Seq (strS Is Own one_src wpList_app)
open Go.Proofs.Yticnbicnefnhbaa.By
attribute [local go_sem ↓] Go.wp_at_zero Go.wp_at_succ

set_option maxRecDepth 100000 in
set_option maxHeartbeats 4000000 in
theorem rdecode_any (s : ByteArray) (w : World) (hs : s.size ≤ 100000) : Calls Try.prog 14 #[.string s] w (DecP w s) := by
  obtain ⟨n, r1, hn⟩ : ∃ n r1, nV 1 (some (L s)) = (n, r1) := ⟨_, _, rfl⟩
  have K1 := Lib.hid (gn1 (Gt.start w s) hs (by omega) hn)
  have hn8 := nx1 hn
  have DL : decL s = if r1 = none then none else if 32 < n then none else (lsV n r1).bind fun x => if x.2 = some [] then some x.1 else none := by
    unfold decL
    rw [hn]
  have DD := Lib.hid DL
  have BAD := Lib.hid (fun w' h b => @DecP.bad w w' s h b)
  have OKK := Lib.hid (fun w' l v h hv b => @DecP.ok w w' s l v h hv b)
  clear hn DL
  go_enter Try.func14, Try.ntmps14
  go_upto_region 3 with (go_at_call 35; (with_reducible refine K1.out.mono ?_); rintro e w1 ⟨rfl, G1, U1⟩)
  have cb := G1.bad
  have B1 := Lib.hid G1.base.2.2
  by_cases h1 : r1 = none ∨ 32 < n
  · have ED := Lib.hid (show decL s = none from by
      rw [DD.out]
      by_cases h : r1 = none
      · rw [if_pos h]
      · rw [if_neg h, if_pos (by rcases h1 with h1 | h1; exact absurd h1 h; exact h1)])
    have h2 : r1.isNone = true ∨ (r1.isNone = false ∧ 32 < n) := by
      cases r1 with
      | none => exact .inl rfl
      | some q => exact .inr ⟨rfl, by rcases h1 with h1 | h1; cases h1; exact h1⟩
    clear h1 DD K1 OKK
    rcases h2 with h2 | ⟨h2, h3⟩
    all_goals
      rw [h2] at cb
      clear h2
      go_wp2_with fail
      go_ret2
      exact BAD.out _ ED.out B1.out
  obtain ⟨h2, h3⟩ : r1 ≠ none ∧ ¬ 32 < n := ⟨fun h => h1 (.inl h), fun h => h1 (.inr h)⟩
  clear h1
  have hr : r1.isNone = false := by cases r1 with
    | none => exact absurd rfl h2
    | some q => rfl
  rw [hr] at cb
  have D0 : Hid (Dq w w1 w.heap.size s n r1 [] r1 nilV) := Lib.hid ⟨G1.mono (by omega), ⟨[], rfl, Own.nil opS w B1.out.size, fun x hx => by cases hx⟩, Rdg.start n r1⟩
  have DE := Lib.hid (show decL s = (lsV n r1).bind fun x => if x.2 = some [] then some x.1 else none from by rw [DD.out, if_neg h2, if_neg h3])
  clear DD K1 G1 U1 hr
  go_wp2_with fail
  clear cb
  go_loopw [6, 7] (fun v i wr => ∃ (xs : List O) (r : Rd) (v' : Value), v = v' ∧ i = .int .i64 (xs.length : Int) ∧ r ≠ none ∧ Dq w wr w.heap.size s n r1 xs r v') (fun _ i _ => n - (intOf i).toNat)
  case atStart => exact ⟨[], r1, nilV, rfl, rfl, h2, D0.out⟩
  case round =>
    obtain ⟨xs, r, vl, hv, rfl, hr, hd⟩ := hrel
    obtain ⟨ad0, cap0, rfl⟩ := hd.shape
    subst hv
    have D := Lib.hid hd
    have hle := hd.R.le
    clear hd D0 h2 B1
    by_cases hlt : xs.length < n
    · have KO := Lib.hid (gone_any (D.out.G.good (B' := s.size) hr) hs (by omega))
      have STEP := Lib.hid (fun a b => D.out.R.step hlt a b)
      have STOP := Lib.hid (fun a => D.out.R.stop hlt a)
      clear hr
      go_wp2_with fail
      refine KO.out.mono ?_
      rintro e w5 ⟨o, u, rfl, hi, ho, G5, U5, hO⟩
      have Q5 := Lib.hid (D.out.touch U5)
      have I5 := Lib.hid hi
      have O5 := Lib.hid ho
      obtain ⟨ad, cap, rfl⟩ := ho.shape
      unfold oV oC
      have cx : oC o (.slice ad o.rows.length cap) = #[.int .u8 (o.kind : Int), .int .u32 (o.page : Int), .int .i64 o.at', .int .i64 o.off, .string o.text, .slice ad o.rows.length cap, .int .u8 (o.pkind : Int), .int .u8 (o.level : Int), .int .u32 (o.next : Int)] := rfl
      have n6 := below_new w5 (.cells #[.int .u8 (o.kind : Int), .int .u32 (o.page : Int), .int .i64 o.at', .int .i64 o.off, .string o.text, .slice ad o.rows.length cap, .int .u8 (o.pkind : Int), .int .u8 (o.level : Int), .int .u32 (o.next : Int)] 26)
      have B6 := Lib.hid (G5.base.2.2.trans (n6.mono G5.base.2.2.size))
      have cb := (G5.later n6).bad
      have G6 := Lib.hid (G5.later n6)
      have F6 := Lib.hid ((Fr.mk hi ⟨wr, D.out.G.base.2.1, D.out.G.base.2.2.size, ho⟩ : Fr w w5 w.heap.size o (.slice ad o.rows.length cap)).later n6)
      have Q6 := Lib.hid (show ∃ q : List (O × Sl), q.map (·.1) = xs ∧ Own opS w _ (.slice ad0 xs.length cap0) q ∧ ∀ x ∈ q, Fr w _ w.heap.size x.1 x.2.1 from by
        obtain ⟨q, q1, q2, q3⟩ := D.out.touch U5
        exact ⟨q, q1, q2.later n6, fun x hx => (q3 x hx).later n6⟩)
      have X6 := Lib.hid (show (w5.alloc (.cells #[.int .u8 (o.kind : Int), .int .u32 (o.page : Int), .int .i64 o.at', .int .i64 o.off, .string o.text, .slice ad o.rows.length cap, .int .u8 (o.pkind : Int), .int .u8 (o.level : Int), .int .u32 (o.next : Int)] 26)).heap[w5.heap.size]? = some (.cells (oC o (.slice ad o.rows.length cap)) 26 (0, 0)) from by rw [cx]; exact heap_alloc_new w5 _)
      clear hi ho U5 KO cx n6 G5
      go_upto_region 10 with fail
      generalize w5.heap.size = b at *
      generalize w5.alloc _ = w6 at *
      by_cases hb : (opV r).2 = none
      · have ED := Lib.hid (show decL s = none from by rw [DE.out, STOP.out (.inl hb)]; rfl)
        rw [hb] at cb
        simp only [Option.isNone_none] at cb
        clear STEP STOP hb G6 Q6 hO F6 X6
        go_wp2_with fail
        go_ret2
        exact BAD.out _ ED.out B6.out
      have ho := hO hb
      subst ho
      have cb2 : (opV r).2.isNone = false := by
        cases h : (opV r).2 with
        | none => exact absurd h hb
        | some q => rfl
      rw [cb2] at cb
      obtain ⟨x0, x1, x2, x3, x4, x5, x6, x7, x8⟩ := (Bx.nine (W0 := w) ⟨X6.out, B6.out⟩)
      have KM := Lib.hid (rmay_any F6.out.i)
      unfold oV oC at KM
      by_cases hm : May (opV r).1
      · rw [decide_eq_true hm] at KM
        have S7 := Lib.hid (STEP.out hb hm)
        have HB := Lib.hid hb
        clear STEP STOP hb hO
        generalize (opV r).1 = X at *
        generalize (opV r).2 = r' at *
        clear cb2
        go_wp2_with fail
        refine KM.out.mono ?_
        rintro e w7 ⟨rfl, b7⟩
        clear x0 x1 x2 x3 x4 x5 x6 x7 x8 KM cb
        have B7 := Lib.hid (B6.out.trans (b7.mono B6.out.size))
        obtain ⟨q, q1, q2, q3⟩ := Q6.out
        have C7 := Lib.hid (q2.later b7)
        have F7 := Lib.hid (F6.out.later b7)
        have A7 := Lib.hid (fun x hx => (q3 x hx).later b7)
        have G7 := Lib.hid (G6.out.later b7)
        obtain ⟨x0, x1, x2, x3, x4, x5, x6, x7, x8⟩ := (Bx.later (W0 := w) ⟨X6.out, B6.out⟩ b7).nine
        have ql : xs.length = q.length := by rw [← q1, List.length_map]
        have QL := Lib.hid ql
        have QE := Lib.hid q1
        clear ql b7 q1 q2 q3 X6 B6 Q6 F6 G6
        have HL := Lib.hid (show q.length + [((X, mkSl ad X.rows.length cap) : O × Sl)].length ≤ 1000000 from by rw [← QL.out]; show xs.length + 1 ≤ _; omega)
        go_wp2_with (at_builtin; refine wpList_app (S := opS) (W0 := w) (l := q) (m := [((X, mkSl ad X.rows.length cap) : O × Sl)]) rfl _ _ rfl (C7.out.later (below_new _ _)) (one_src opS ((X, mkSl ad X.rows.length cap) : O × Sl)) HL.out rfl rfl ?_; intro v8 w8 o8 g8)
        have nb7 := below_new w7 (.cells (opS.cells ((X, mkSl ad X.rows.length cap) : O × Sl)).toArray opS.e)
        have k8 := C7.out.later nb7
        have D8 : Hid (Dq w w8 w.heap.size s n r1 (xs ++ [X]) r' v8) := Lib.hid ⟨((G7.out.later nb7).grownO k8 g8).mono (by omega), ⟨_, by rw [List.map_append, QE.out]; rfl, o8, fun x hx => by
          rcases List.mem_append.1 hx with hx | hx
          · exact ((A7.out x hx).later nb7).grown k8 g8
          · rw [List.mem_singleton.1 hx]; exact (F7.out.later nb7).grown k8 g8⟩, S7.out⟩
        clear x0 x1 x2 x3 x4 x5 x6 x7 x8 k8 nb7 g8 o8 G7 A7 F7 C7 S7 B7
        go_wp2_with fail
        go_roundw
        case rel => exact ⟨xs ++ [X], r', _, rfl, by rw [List.length_append]; go_num, HB.out, D8.out⟩
        case measure => simp [intOf]; omega
      · have ED := Lib.hid (show decL s = none from by rw [DE.out, STOP.out (.inr hm)]; rfl)
        rw [decide_eq_false hm] at KM
        clear STEP STOP hb G6 Q6 hO F6 X6
        go_wp2_with fail
        refine KM.out.mono ?_
        rintro e w7 ⟨rfl, b7⟩
        have B7 := Lib.hid (B6.out.trans (b7.mono B6.out.size))
        clear b7
        go_wp2_with fail
        go_ret2
        exact BAD.out _ ED.out B7.out
    · have hL : lsV n r1 = some (xs, r) := D.out.R.done hlt
      obtain ⟨a, b, hg, hl⟩ := D.out.G
      obtain ⟨rfl, ha, rfl⟩ : b = false ∧ a ≤ s.size ∧ r = some ((L s).drop a) := by
        rcases hl with h | ⟨_, h, _⟩
        · exact h
        · exact absurd h hr
      obtain ⟨c0, c1, c2⟩ := hg.three
      have OP := Lib.hid D.out.ops
      have BB := Lib.hid hg.below
      clear hl hr hg D
      by_cases he : a = s.size
      · have ED := Lib.hid (show decL s = some xs from by
          rw [DE.out, hL]
          show (if some ((L s).drop a) = some [] then some xs else none) = _
          rw [if_pos]
          rw [List.drop_of_length_le (by rw [L_len]; omega)])
        subst he
        have f1 : ((s.size : Int) == (s.size : Int)) = true := by simp
        clear hL DE
        go_wp2_with fail
        go_ret2
        exact OKK.out _ _ _ ED.out OP.out BB.out
      · have ED := Lib.hid (show decL s = none from by
          rw [DE.out, hL]
          show (if some ((L s).drop a) = some [] then some xs else none) = _
          rw [if_neg]
          intro h
          have := congrArg List.length (Option.some.inj h)
          rw [List.length_drop, L_len] at this
          simp at this
          omega)
        have f1 : ((a : Int) == (s.size : Int)) = false := by rw [beq_eq_false_iff_ne]; omega
        clear hL DE
        go_wp2_with fail
        go_ret2
        exact BAD.out _ ED.out BB.out

end Go.Proofs.Yticnbicnefnhbaa.Op

namespace Go.Proofs.Yticnbicnefnhbaa.Op
open Go.RowKit
open Go.Proofs.Yticnbicnefnhbaa.Seq (strS u32S Is Own)
open Go.Proofs.Yticnbicnefnhbaa.Page (Pg pgV used)
open Go.Proofs.Yticnbicnefnhbaa.By

/-- it lies in a block of texts; its capacity is one -/
structure Str (w : World) (v : Value) : Prop where
  own : ∀ b, v.ownBlock = some b → ∃ cs f, w.heap[b]? = some (.cells cs 9 f)
  cap : Page.CapOk v
/-- a page and a number, handed back: its rows are the call's own texts, or what came in -/
def PgOut (w : World) (vin : Value) (p : Pg) (e : Nat) : Ending → World → Prop := fun en w' => ∃ v, en = .returned (.tuple #[pgV p v, .int .i64 (e : Int)]) ∧ Page.Rows w' v p.rows ∧ (Str w' v ∨ v = vin) ∧ Below w.heap.size w w'
/-- whose pages, rising -/
def PsOf (l : List O) (ps : List Nat) : Prop := (∀ n, n ∈ ps ↔ ∃ o ∈ l, o.page = n) ∧ ps.Pairwise (· < ·)

end Go.Proofs.Yticnbicnefnhbaa.Op

namespace Go.Proofs.Yticnbicnefnhbaa.Op
open Go.RowKit
open Go.Proofs.Yticnbicnefnhbaa.Seq (strS Is)
open Go.Proofs.Yticnbicnefnhbaa.By
attribute [local go_sem ↓] Go.wp_at_zero Go.wp_at_succ

/-- wiped out: what is left is its kind and its page alone, just if it has only what its kind has -/
theorem strip_iff (B : Nat) (o : O) : (thru (cCar B) o ()).1 = { O.zero with kind := o.kind, page := o.page } ↔ only o = o := by
  have hr : (rowsC (cCar B) () o.rows).1 = [] := by
    unfold rowsC
    show (txts (cCar B) (fitTo 0 o.rows) ()).1 = []
    have e : fitTo 0 o.rows = [] := List.eq_nil_of_length_eq_zero (fitTo_len 0 _)
    rw [e]; rfl
  obtain ⟨kind, page, at', off, text, rows, pkind, level, next⟩ := o
  simp only at hr
  unfold thru only
  simp only [hr]
  have hc : ∀ n m, ((cCar B).num () n m) = (0, ()) := fun _ _ => rfl
  have ht : ∀ t, ((cCar B).txt () t) = (⟨#[]⟩, ()) := fun _ => rfl
  simp only [hc, ht, O.zero]
  repeat' split
  all_goals
    clear hr hc ht
    simp only [O.mk.injEq, true_and, and_true, Int.natCast_zero]
    grind
theorem strip_dec (B : Nat) (o : O) : decide ((thru (cCar B) o ()).1 = { O.zero with kind := o.kind, page := o.page }) = decide (only o = o) := by
  rw [Bool.eq_iff_iff, decide_eq_true_iff, decide_eq_true_iff]
  exact strip_iff B o
theorem fit_of {w : World} {o : O} {u : Value} (h : In w o u) (ha : 0 ≤ o.at' ∧ o.at' ≤ 488) (hf : 0 ≤ o.off ∧ o.off ≤ 488) (hr : o.rows.length ≤ 488) (ht : o.text.size + total o.rows ≤ 488) : Fit o :=
  ⟨h.wf, by omega, by omega, by omega, by omega, fun r hr => by have := total_le hr; omega⟩
theorem rk_of {w : World} {u : Value} {l : List ByteArray} (h : Is strS w u l) (w' : World) (t : Below w.heap.size w w') : Rk w.heap.size w' u l := by
  refine ⟨h.later t, fun a n c e => ?_⟩
  obtain ⟨a', cap, hv, h1, h2, hc⟩ := h
  rw [hv] at e
  simp only [Value.slice.injEq] at e
  obtain ⟨rfl, _, _⟩ := e
  rcases hc with h | ⟨x, o, he, hx, _⟩
  · exact .inr (.inl h)
  · simp only [Option.some.injEq] at he
    subst he
    exact .inl hx
theorem in_of {B : Nat} {w : World} {g : Nat} {o : O} {u : Value} (h : Pb B w g o u) : In w o u := by
  have f := h.fit
  exact ⟨f.wf, by have := f.a; omega, by have := f.f; omega, by have := f.text; omega, h.rows.is, by have := f.len; omega, fun r hr => by have := f.each r hr; omega⟩
theorem rm_c (B : Nat) (o : O) : Rm (cCar B) o () := ⟨trivial, trivial, trivial⟩
theorem in_kp {w : World} {o : O} (h : o.wf) : In w { O.zero with kind := o.kind, page := o.page } (.slice none 0 0) :=
  in_plain ⟨h.kind, h.page, by simp [O.zero], by simp [O.zero], by simp [O.zero]⟩ (by simp [O.zero]) (by simp [O.zero]) (Nat.zero_le _) rfl

set_option maxRecDepth 100000 in
set_option maxHeartbeats 2000000 in
theorem bare_any {w : World} {o : O} {u : Value} (h : In w o u) (hf : Fit o) : Calls Try.prog 39 #[oV o u] w fun e w' => e = .returned (.bool (decide (only o = o))) ∧ Below w.heap.size w w' := by
  obtain ⟨ad, c, hu⟩ := h.rows.shape
  obtain ⟨n, hn⟩ : ∃ n, n = o.rows.length := ⟨_, rfl⟩
  rw [← hn] at hu
  subst hu
  have T0 := Lib.hid (Bx.start w o (.slice ad n c))
  have X2 := Lib.hid (show Pb w.heap.size ((w.alloc (.cells (oC o (.slice ad n c)) 26)).alloc (.cells (oC o (.slice ad n c)) 68)) (w.heap.size + 1) o (.slice ad n c) from
    ⟨by have := heap_alloc_new (w.alloc (.cells (oC o (.slice ad n c)) 26)) (.cells (oC o (.slice ad n c)) 68); simpa using this, by omega, hf, rk_of h.rows _ (Page.below2 w _ _)⟩)
  have T2 := Lib.hid (T0.out.later (below_new _ (.cells (oC o (.slice ad n c)) 68)))
  have SD := Lib.hid (strip_dec w.heap.size o)
  have WF := Lib.hid h.wf
  obtain ⟨a0, a1, a2, a3, a4, a5, a6, a7, a8⟩ := T0.out.nine
  clear h hf hn
  unfold oV oC at *
  generalize decide (only o = o) = res at *
  go_enter Try.func39, Try.ntmps39
  go_upto_region 2 with fail
  clear a0 a1 a2 a3 a4 a5 a6 a7 a8 T0
  generalize hg : w.heap.size + 1 = g at *
  generalize (w.alloc _).alloc _ = W2 at *
  have K := Lib.hid (show Calls Try.prog 51 #[.pointer (some ⟨g, 0, none⟩), .iface 99 (.agg #[])] W2 fun e w' => e = .returned (.tuple #[]) ∧ True ∧ (∃ u', Pb w.heap.size w' g (thru (cCar w.heap.size) o ()).1 u') ∧ Only w.heap.size tall W2 w' from through_any (C := cCar w.heap.size) (cCar_ok _) (s := ()) (r := thru (cCar w.heap.size) o ()) trivial X2.out (thru_chain (cCar_ok _) (rm_c _ o)))
  obtain ⟨o2, ho2⟩ : ∃ o2, o2 = (thru (cCar w.heap.size) o ()).1 := ⟨_, rfl⟩
  rw [← ho2] at K SD
  clear ho2
  go_wp2_with fail
  refine K.out.mono ?_
  rintro e w3 ⟨rfl, _, ⟨u3, x3⟩, k3⟩
  obtain ⟨a3, c3, hu3⟩ := x3.rows.is.shape
  obtain ⟨m, hm⟩ : ∃ m, m = o2.rows.length := ⟨_, rfl⟩
  rw [← hm] at hu3
  subst hu3
  have B3 := Lib.hid (T2.out.below.trans (k3.below (Nat.le_trans (Nat.le_add_right _ 1) (T2.out.below.size |> fun h => by have := (Array.getElem?_eq_some_iff.1 X2.out.box).1; omega))))
  have T3 := Lib.hid (⟨k3.keep T2.out.box (by decide), B3.out⟩ : Bx w w3 w.heap.size o (.slice ad n c))
  have X3 := Lib.hid x3
  have SM := Lib.hid (csame_any (in_of x3) (in_kp (w := w3) WF.out))
  rw [SD.out] at SM
  obtain ⟨p0, p1, p2, p3, p4, p5, p6, p7, p8⟩ := X3.out.nine
  obtain ⟨q0, q1, q2, q3, q4, q5, q6, q7, q8⟩ := T3.out.nine
  unfold oV oC O.zero at SM
  clear x3 k3 K X2 T2 hm SD q2 q3 q4 q5 q6 q7 q8
  go_wp2_with fail
  refine SM.out.mono ?_
  rintro e w4 ⟨rfl, b4⟩
  have B4 := Lib.hid (B3.out.trans (b4.mono B3.out.size))
  go_wp2_with fail
  go_ret
  exact ⟨rfl, B4.out⟩

end Go.Proofs.Yticnbicnefnhbaa.Op

namespace Go.Proofs.Yticnbicnefnhbaa.Op
open Go.RowKit
open Go.Proofs.Yticnbicnefnhbaa.Seq (strS Is)
open Go.Proofs.Yticnbicnefnhbaa.By
attribute [local go_sem ↓] Go.wp_at_zero Go.wp_at_succ

set_option maxRecDepth 100000 in
set_option maxHeartbeats 4000000 in
theorem cmay_all {w : World} {o : O} {u : Value} (h : In w o u) : Calls Try.prog 16 #[oV o u] w fun e w' => e = .returned (.bool (decide (May o))) ∧ Below w.heap.size w w' := by
  have T0 := Lib.hid (Bx.start w o u)
  have H := Lib.hid (h.later T0.out.below)
  obtain ⟨pa, hpa⟩ : ∃ b, b = decide (0 ≤ o.at' ∧ o.at' ≤ 488) := ⟨_, rfl⟩
  obtain ⟨pb, hpb⟩ : ∃ b, b = decide (0 ≤ o.off ∧ o.off ≤ 488) := ⟨_, rfl⟩
  obtain ⟨pt, hpt⟩ : ∃ b, b = decide (o.rows.length ≤ 488 ∧ o.text.size + total o.rows ≤ 488) := ⟨_, rfl⟩
  have PA := Lib.hid (fun W => place_any o.at' W h.a)
  have PB := Lib.hid (fun W => place_any o.off W h.f)
  have PT := Lib.hid (texts_any H.out.rows h.text h.len h.each)
  rw [← hpa] at PA
  rw [← hpb] at PB
  rw [← hpt] at PT
  have HA := Lib.hid hpa; have HB := Lib.hid hpb; have HT := Lib.hid hpt
  have BB := Lib.hid T0.out.below
  obtain ⟨a0, a1, a2, a3, a4, a5, a6, a7, a8⟩ := T0.out.nine
  obtain ⟨ad, c, hu⟩ := h.rows.shape
  obtain ⟨n, hn⟩ : ∃ n, n = o.rows.length := ⟨_, rfl⟩
  rw [← hn] at hu
  subst hu
  clear h hpa hpb hpt hn
  obtain ⟨res, hres⟩ : ∃ b, b = decide (May o) := ⟨_, rfl⟩
  rw [← hres]
  have HR := Lib.hid hres
  clear hres
  unfold oV oC at *
  by_cases h1 : 1 ≤ o.kind ∧ o.kind ≤ 8 ∧ 1 ≤ o.page ∧ o.page ≤ 1024
  rotate_left
  · have NO := Lib.hid (show res = false by rw [HR.out, decide_eq_false_iff_not]; exact fun m => h1 ⟨m.k1, m.k8, m.p1, m.p2⟩)
    have hw : o.kind < 1 ∨ (¬ o.kind < 1 ∧ 8 < o.kind) ∨ (¬ o.kind < 1 ∧ ¬ 8 < o.kind ∧ o.page < 1) ∨ (¬ o.kind < 1 ∧ ¬ 8 < o.kind ∧ ¬ o.page < 1 ∧ 1024 < o.page) := by omega
    clear h1 T0 H PA PB PT HA HB HT HR
    go_enter Try.func16, Try.ntmps16
    rcases hw with g | ⟨g1, g⟩ | ⟨g1, g2, g⟩ | ⟨g1, g2, g3, g⟩
    all_goals
      go_wp2_with fail
      go_ret
      exact ⟨ret_bool NO.out.symm, BB.out⟩
  obtain ⟨q1, q2, q3, q4⟩ := h1
  cases pa
  · have NO := Lib.hid (show res = false by rw [HR.out, decide_eq_false_iff_not]; intro m; have := HA.out; rw [eq_comm, decide_eq_false_iff_not] at this; exact this ⟨m.a0, m.a1⟩)
    clear T0 H PB PT HA HB HT HR
    go_enter Try.func16, Try.ntmps16
    go_wp2_with (go_at_call 37; (with_reducible refine (PA.out _).mono ?_); rintro e w' ⟨rfl, rfl⟩)
    go_ret
    exact ⟨ret_bool NO.out.symm, BB.out⟩
  cases pb
  · have NO := Lib.hid (show res = false by rw [HR.out, decide_eq_false_iff_not]; intro m; have := HB.out; rw [eq_comm, decide_eq_false_iff_not] at this; exact this ⟨m.o0, m.o1⟩)
    clear T0 H PT HA HB HT HR
    go_enter Try.func16, Try.ntmps16
    go_wp2_with (go_at_call 37; first | ((with_reducible refine (PA.out _).mono ?_); rintro e w' ⟨rfl, rfl⟩) | ((with_reducible refine (PB.out _).mono ?_); rintro e w' ⟨rfl, rfl⟩))
    go_ret
    exact ⟨ret_bool NO.out.symm, BB.out⟩
  cases pt
  · have NO := Lib.hid (show res = false by rw [HR.out, decide_eq_false_iff_not]; intro m; have := HT.out; rw [eq_comm, decide_eq_false_iff_not] at this; exact this ⟨m.rl, m.tt⟩)
    clear T0 H HA HB HT HR
    go_enter Try.func16, Try.ntmps16
    go_wp2_with (first | (go_at_call 37; first | ((with_reducible refine (PA.out _).mono ?_); rintro e w' ⟨rfl, rfl⟩) | ((with_reducible refine (PB.out _).mono ?_); rintro e w' ⟨rfl, rfl⟩)) | (go_at_call 38; refine PT.out.mono ?_; rintro e w' ⟨rfl, rfl⟩))
    go_ret
    exact ⟨ret_bool NO.out.symm, BB.out⟩
  by_cases h2 : o.pkind ≤ 5 ∧ o.next ≤ 1024
  rotate_left
  · have NO := Lib.hid (show res = false by rw [HR.out, decide_eq_false_iff_not]; exact fun m => h2 ⟨m.pk, m.nx⟩)
    have hw : 5 < o.pkind ∨ (¬ 5 < o.pkind ∧ 1024 < o.next) := by omega
    clear h2 T0 H HA HB HT HR
    go_enter Try.func16, Try.ntmps16
    rcases hw with g | ⟨g1, g⟩
    all_goals
      go_wp2_with (first | (go_at_call 37; first | ((with_reducible refine (PA.out _).mono ?_); rintro e w' ⟨rfl, rfl⟩) | ((with_reducible refine (PB.out _).mono ?_); rintro e w' ⟨rfl, rfl⟩)) | (go_at_call 38; refine PT.out.mono ?_; rintro e w' ⟨rfl, rfl⟩))
      go_ret
      exact ⟨ret_bool NO.out.symm, BB.out⟩
  obtain ⟨r1, r2⟩ := h2
  have ta := of_decide_eq_true HA.out.symm
  have tb' := of_decide_eq_true HB.out.symm
  have tt := of_decide_eq_true HT.out.symm
  have BA := Lib.hid (bare_any H.out (fit_of H.out ta tb' tt.1 tt.2))
  obtain ⟨pc, hpc⟩ : ∃ b, b = decide (only o = o) := ⟨_, rfl⟩
  rw [← hpc] at BA
  have R := Lib.hid (show res = pc by
    rw [HR.out, hpc, Bool.eq_iff_iff, decide_eq_true_iff, decide_eq_true_iff]
    exact ⟨fun m => m.on, fun m => ⟨q1, q2, q3, q4, r2, r1, ta.1, ta.2, tb'.1, tb'.2, tt.1, tt.2, m⟩⟩)
  clear T0 H HA HB HT HR ta tb' tt hpc
  unfold oV oC at BA
  go_enter Try.func16, Try.ntmps16
  cases pc
  all_goals
    go_wp2_with (first | (go_at_call 37; first | ((with_reducible refine (PA.out _).mono ?_); rintro e w' ⟨rfl, rfl⟩) | ((with_reducible refine (PB.out _).mono ?_); rintro e w' ⟨rfl, rfl⟩)) | (go_at_call 38; refine PT.out.mono ?_; rintro e w' ⟨rfl, rfl⟩) | (go_at_call 39; refine BA.out.mono ?_; rintro e w' ⟨rfl, b⟩))
    go_ret
    exact ⟨ret_bool R.out.symm, BB.out.trans (b.mono BB.out.size)⟩

end Go.Proofs.Yticnbicnefnhbaa.Op
