/-
  What a call may touch.
  Plain mathematics: pages and their rows.
  Memory: where a slice begins.
  Memory: a slice of texts of the call's own: append, slices, a store.
  Slices of texts: that came in, or were made; parts of them (any stage).
  Memory: pages that come in, or were made; what rows leave.
  Walks: what rows leave, room, may, same.
  Walks: the document's left, room, may, same; heavy.
  Pages that come in.
  Memory: a slice of the call's own is one of rows.
  Memory: slices of rows that came in.
  Walks: a page and a number are returned.
  Memory: rows and truths that came in are appended to a new slice.
-/
import Derived.Test.YtfcibccipkokoaaProg
import Derived.WalkKit
import Derived.WalkSpells
import Derived.WalkLawsBesides
import Derived.Lib.Hide
import Derived.Lib.BufSteps
import Derived.Lib.BufferWrite
import Derived.Lib.SliceRun
import Derived.Laws.Rows
import Derived.Laws.CopyOwn
import Derived.Laws.MakeOwn
import Derived.Laws.IdiomCopy
import Derived.Laws.IdiomStrings
import Derived.Laws.CopyRow
import Derived.Deep.MidRow
import Derived.Deep.Upon
import Derived.Deep.Draws
import Derived.Deep.RegionHeld3
import Derived.Deep.DrawnRows
import Derived.Deep.QuietTactic
import Derived.BigQuiet
import Derived.StillTailTactics
import Derived.Laws.Pointers
import Derived.WalkMore
import Derived.Outline
import Derived.Deep.DeepCutAuto
import Derived.Deep.CutBlock
import Derived.Laws.OwnMore
import Derived.Laws.AppendOwnNone
import Derived.Maps.AppendAt
import Derived.Deep.Slices
import Derived.Deep.Fields
import Derived.Deep.Grids
import Derived.ChangeSame
import Derived.SizedLaws
import Derived.SliceStrings
import Derived.OpenShut
import Derived.Test.YtfcibccipkokoaaShelf
import Derived.Test.YtfcibccipkokoaaZ1
namespace Go.Proofs.Ytfcibccipkokoaa
open Go.RowKit

/-- what may be touched: F, and what is new -/
structure Touch (F : Nat → Prop) (w w' : World) : Prop where
  os : w'.os = w.os
  tape : w'.tape = w.tape
  output : w'.output = w.output
  size : w.heap.size ≤ w'.heap.size
  block : ∀ b, b < w.heap.size → ¬ F b → w'.heap[b]? = w.heap[b]?
def grew (F : Nat → Prop) (w w' : World) (b : Nat) : Prop := F b ∨ (w.heap.size ≤ b ∧ b < w'.heap.size)

theorem Touch.refl (F : Nat → Prop) (w : World) : Touch F w w := ⟨rfl, rfl, rfl, Nat.le_refl _, fun _ _ _ => rfl⟩
theorem Touch.trans {F G : Nat → Prop} {a b c : World} (h : Touch F a b) (k : Touch G b c) (hG : ∀ x, x < a.heap.size → G x → F x) : Touch F a c :=
  ⟨k.os.trans h.os, k.tape.trans h.tape, k.output.trans h.output, Nat.le_trans h.size k.size, fun x hx hF => (k.block x (Nat.lt_of_lt_of_le hx h.size) (fun hg => hF (hG x hx hg))).trans (h.block x hx hF)⟩
theorem Touch.trans' {F : Nat → Prop} {a b c : World} (h : Touch F a b) (k : Touch F b c) : Touch F a c := h.trans k fun _ _ hx => hx
theorem Touch.step {F : Nat → Prop} {a b c : World} (h : Touch F a b) (k : Touch (grew F a b) b c) : Touch F a c :=
  h.trans k fun x hx hg => by
    rcases hg with hg | hg
    · exact hg
    · omega
theorem Touch.mono {F G : Nat → Prop} {a b : World} (h : Touch F a b) (hG : ∀ x, F x → G x) : Touch G a b :=
  ⟨h.os, h.tape, h.output, h.size, fun x hx hn => h.block x hx fun hf => hn (hG x hf)⟩
theorem Touch.ofBelow {F : Nat → Prop} {B : Nat} {a b : World} (h : Below B a b) (hF : ∀ x, B ≤ x → x < a.heap.size → F x) : Touch F a b :=
  ⟨h.os, h.tape, h.output, h.size, fun x hx hn => h.block x (by
    rcases Nat.lt_or_ge x B with h1 | h1
    · exact h1
    · exact absurd (hF x h1 hx) hn)⟩
theorem Touch.ofNew {F : Nat → Prop} {a b : World} (h : Below a.heap.size a b) : Touch F a b := Touch.ofBelow h fun x h1 h2 => by omega
theorem Touch.below {F : Nat → Prop} {B : Nat} {a b : World} (h : Touch F a b) (hB : B ≤ a.heap.size) (hF : ∀ x, F x → B ≤ x) : Below B a b :=
  ⟨h.os, h.tape, h.output, h.size, fun x hx => h.block x (by omega) fun hf => by have := hF x hf; omega⟩
theorem Touch.alloc {F : Nat → Prop} {a w : World} (h : Touch F a w) (o : Obj) : Touch F a (w.alloc o) :=
  h.trans' (F := F) (Touch.ofNew ((Below.refl _ _).alloc (Nat.le_refl _) o))
theorem Touch.drew {F : Nat → Prop} {a w : World} (h : Touch F a w) : Touch F a w.drew := ⟨h.os, h.tape, h.output, h.size, h.block⟩
theorem Touch.setCell {F : Nat → Prop} {a w : World} (h : Touch F a w) {x : Addr} (hx : F x.block) (u : Value) : Touch F a (w.setCell x u) :=
  h.trans' ⟨rfl, rfl, rfl, by simp, fun b _ hn => Below.heap_setCell _ _ _ _ (fun e => hn (e ▸ hx))⟩
theorem Touch.setNew {F : Nat → Prop} {a w : World} (h : Touch F a w) {x : Addr} (hx : a.heap.size ≤ x.block) (u : Value) : Touch F a (w.setCell x u) :=
  h.trans (G := fun b => b = x.block) (Touch.setCell (F := fun b => b = x.block) (Touch.refl _ _) (x := x) rfl u) fun y hy e => by omega
theorem Touch.setCells {F : Nat → Prop} {a : World} {g : Nat} (hg : F g) : ∀ (vs : List Value) (o : Nat) {w : World}, Touch F a w → Touch F a (w.setCells g o vs)
  | [], _, _, h => h
  | v :: r, o, _, h => Touch.setCells hg r (o + 1) (h.setCell (x := ⟨g, o, none⟩) hg v)
theorem Touch.grown {F : Nat → Prop} {a w w' : World} {row : Option Nat} (h : Touch F a w) (hg : w.grownBy w' row) (hr : ∀ k, row = some k → F k) : Touch F a w' :=
  h.trans' ⟨hg.os, hg.tape, hg.output, hg.size, fun b hb hn => hg.block b hb fun e => hn (hr b e.symm)⟩
theorem grew_lt {F : Nat → Prop} {w w' : World} (h : ∀ b, F b → b < w.heap.size) (hs : w.heap.size ≤ w'.heap.size) : ∀ b, grew F w w' b → b < w'.heap.size := by
  rintro b (hb | hb)
  · have := h b hb; omega
  · exact hb.2


theorem below_drewN {B : Nat} {w w' : World} (h : Below B w w') (n : Nat) : Below B w (w'.drewN n) :=
  ⟨h.os, h.tape, h.output, h.size, h.block⟩
theorem quiet_same {P : Program} {f : FuncId} {args : Array Value} {w : World} {n : Nat} {v : Value}
    (h : Calls P f args (w.drewN n) fun e w' => e = .returned v ∧ w.drewN n = w') : Calls P f args (w.drewN n) fun e w'' => e = .returned v ∧ ∃ m, w'' = w.drewN m :=
  h.mono fun _ _ ⟨he, hm⟩ => ⟨he, n, hm.symm⟩
theorem quiet_same0 {P : Program} {f : FuncId} {args : Array Value} {w : World} {v : Value}
    (h : Calls P f args w fun e w' => e = .returned v ∧ w = w') : Calls P f args w fun e w'' => e = .returned v ∧ ∃ m, w'' = w.drewN m :=
  h.mono fun _ _ ⟨he, hm⟩ => ⟨he, 0, hm.symm⟩

end Go.Proofs.Ytfcibccipkokoaa

namespace Go.Proofs.Ytfcibccipkokoaa.Page

/-- a page: what it has -/
structure Pg where
  kind : Nat
  level : Nat
  id : Nat
  lsn : Nat
  next : Nat
  rows : List ByteArray
def Pg.zero : Pg := ⟨0, 0, 0, 0, 0, []⟩
def nth (l : List ByteArray) (k : Nat) : ByteArray := l.getD k .empty
/-- what rows take -/
def used (l : List ByteArray) : Nat := (l.map fun r => 4 + r.size).sum
structure Pg.wf (p : Pg) : Prop where
  kind : p.kind < 256
  level : p.level < 256
  id : p.id < 4294967296
  lsn : p.lsn < 18446744073709551616
  next : p.next < 4294967296
/-- may it be? -/
def mayP (p : Pg) : Bool := decide (p.kind ≤ 5 ∧ 1 ≤ p.id ∧ p.id ≤ 1024 ∧ p.next ≤ 1024 ∧ used p.rows ≤ 484)
def leftI (l : List ByteArray) : Int := if used l ≤ 484 then 484 - (used l : Int) else -1
def roomI (l : List ByteArray) : Int := if used l ≤ 480 then 480 - (used l : Int) else -1
/-! ### rows -/
theorem used_nil : used [] = 0 := rfl
theorem used_cons (r : ByteArray) (l : List ByteArray) : used (r :: l) = 4 + r.size + used l := by simp [used]
theorem used_app (l m : List ByteArray) : used (l ++ m) = used l + used m := by simp [used]
theorem nth_take {l : List ByteArray} {k : Nat} (h : k < l.length) : l.take (k + 1) = l.take k ++ [nth l k] := by
  rw [List.take_succ_eq_append_getElem h]
  unfold nth
  rw [List.getD_eq_getElem?_getD, List.getElem?_eq_getElem h]
  rfl
theorem nth_get {l : List ByteArray} {k : Nat} (h : k < l.length) : l[k]? = some (nth l k) := by
  unfold nth
  rw [List.getD_eq_getElem?_getD, List.getElem?_eq_getElem h]
  rfl
theorem nth_elem {l : List ByteArray} {k : Nat} (h : k < l.length) : l[k] = nth l k := by
  have := nth_get h
  rw [List.getElem?_eq_getElem h] at this
  exact Option.some.inj this
theorem used_take {l : List ByteArray} {k : Nat} (h : k < l.length) : used (l.take (k + 1)) = used (l.take k) + (4 + (nth l k).size) := by
  rw [nth_take h, used_app, used_cons, used_nil]; omega
theorem used_take_le (l : List ByteArray) (k : Nat) : used (l.take k) ≤ used l := by
  have h := used_app (l.take k) (l.drop k)
  rw [List.take_append_drop] at h
  omega
theorem used_len (l : List ByteArray) : 4 * l.length ≤ used l := by
  induction l with
  | nil => simp [used]
  | cons r l ih => rw [used_cons, List.length_cons]; omega
theorem nth_size {l : List ByteArray} {k : Nat} (h : k < l.length) : 4 + (nth l k).size ≤ used l := by
  have h1 := used_take h
  have h2 := used_take_le l (k + 1)
  omega

theorem may_used {p : Pg} (h : mayP p = true) : used p.rows ≤ 484 := by
  unfold mayP at h
  exact (of_decide_eq_true h).2.2.2.2

end Go.Proofs.Ytfcibccipkokoaa.Page

namespace Go.Proofs.Ytfcibccipkokoaa.Slot
open Go.RowKit

/-- where a slice from k on begins -/
def base (g k c : Nat) : Option Addr := if c = k then some ⟨g, 0, none⟩ else some ⟨g, k, none⟩
theorem base_lt {g k c : Nat} (h : k < c) : base g k c = some ⟨g, k, none⟩ := if_neg (by omega)
theorem base_any (g k c : Nat) : ∃ o, base g k c = some ⟨g, o, none⟩ := by
  unfold base; split
  · exact ⟨0, rfl⟩
  · exact ⟨k, rfl⟩

end Go.Proofs.Ytfcibccipkokoaa.Slot

namespace Go.Proofs.Ytfcibccipkokoaa.Slot
open Go.RowKit

/-- what append's second argument yields -/
def SrcOf (w : World) (x : Value) (m : Nat) (news : List Value) : Prop :=
  (x = .slice none 0 0 ∧ m = 0 ∧ news = []) ∨ ∃ a c, x = .slice (some a) m c ∧ news.length = m ∧ (∀ j u, news[j]? = some u → w.cell? (a.add j) = some u) ∧ (∀ u ∈ news, u.oneCell' = true) ∧ a.block < w.heap.size
/-- v is a slice of these texts, in a block that was made since W0 -/
structure Tx (W0 w : World) (v : Value) (l : List ByteArray) : Prop where
  own : w.ownsRow W0.heap.size 9 1 v l.length (l.map Value.string)
  size : W0.heap.size ≤ w.heap.size

theorem str_one (l : List ByteArray) : ∀ u ∈ l.map Value.string, u.oneCell' = true := by
  intro u hu
  obtain ⟨s, _, rfl⟩ := List.mem_map.1 hu
  rfl
set_option maxRecDepth 100000 in
theorem Word.infoS : (Try.prog.info? 9).map (fun i => (i.zero, i.size, i.bytes)) = some (some (.string ⟨#[]⟩), 1, 16) := by kernel_rfl

section
variable {W0 w : World} {v : Value} {l : List ByteArray}
theorem Tx.form (h : Tx W0 w v l) : (v = .slice none 0 0 ∧ l = []) ∨ ∃ g cap cur, v = .slice (some ⟨g, 0, none⟩) l.length cap ∧ W0.heap.size ≤ g ∧ w.heap[g]? = some (.cells cur 9 (0, 0)) ∧ l.length ≤ cap ∧ cur.toList.take l.length = l.map Value.string := by
  rcases h.own.2 with ⟨h1, h2⟩ | ⟨g, cap, cur, h1, h2, h3, h4, h5, h6, h7⟩
  · exact .inl ⟨h1, List.eq_nil_of_length_eq_zero h2⟩
  · exact .inr ⟨g, cap, cur, h1, h2, h3, h4, by rw [Nat.mul_one] at h7; exact h7⟩
theorem Tx.shape (h : Tx W0 w v l) : ∃ ad cap, v = .slice ad l.length cap := by
  rcases h.form with ⟨rfl, rfl⟩ | ⟨g, cap, cur, h1, _⟩
  · exact ⟨none, 0, rfl⟩
  · exact ⟨_, cap, h1⟩
theorem Tx.nil (W0 : World) {w : World} (hs : W0.heap.size ≤ w.heap.size) : Tx W0 w (.slice none 0 0) [] := ⟨World.ownsRow_nil _ _ _ _, hs⟩
theorem Tx.far {w' : World} (h : Tx W0 w v l) (hs : w.heap.size ≤ w'.heap.size) (hk : ∀ x, v.ownBlock = some x → w'.heap[x]? = w.heap[x]?) : Tx W0 w' v l := by
  refine ⟨⟨h.own.1, ?_⟩, Nat.le_trans h.size hs⟩
  rcases h.own.2 with ⟨h1, h2⟩ | ⟨g, cap, cur, rfl, h2, h3, h4⟩
  · exact .inl ⟨h1, h2⟩
  · exact .inr ⟨g, cap, cur, rfl, h2, (hk g rfl).trans h3, h4⟩
theorem Tx.lt (h : Tx W0 w v l) : ∀ x, v.ownBlock = some x → x < w.heap.size := fun x hx => (h.own.lt x hx).2
theorem Tx.later {w' : World} (h : Tx W0 w v l) (t : Below w.heap.size w w') : Tx W0 w' v l := h.far t.size fun x hx => t.block x (h.lt x hx)
/-! ### slices of it -/
set_option maxRecDepth 100000 in
theorem elem_strs : Try.prog.underlying 34 = some (.slice (Try.prog.elem 34)) := by kernel_rfl
set_option maxRecDepth 100000 in
theorem size_str (w : World) : (sizeOf (Try.prog.elem 34)).run Try.prog w = .ok 1 w := by kernel_rfl
theorem Tx.head (h : Tx W0 w v l) {k : Nat} (hk : k ≤ l.length) : ∃ x, (∀ W : World, (Instr.sliceAt 34 v none (some (.int .i64 (k : Int))) none).run Try.prog W = .ok x W) ∧ SrcOf w x k ((l.take k).map Value.string) := by
  rcases h.form with ⟨rfl, rfl⟩ | ⟨g, cap, cur, rfl, h2, h3, h4, h5⟩
  · have hk0 : k = 0 := by simpa using hk
    subst hk0
    refine ⟨.slice none 0 0, fun W => ?_, .inl ⟨rfl, rfl, rfl⟩⟩
    rw [run_sliceAt_slice (P := Try.prog) W 34 _ _ _ _ elem_strs, run_slice_h (P := Try.prog) W 34 _ _ _ elem_strs .i64 ((0 : Nat) : Int) (by omega) (by omega), size_str]
    rfl
  · refine ⟨.slice (some ⟨g, 0, none⟩) k cap, fun W => ?_, .inr ⟨⟨g, 0, none⟩, cap, rfl, by rw [List.length_map, List.length_take]; omega, fun j u hj => ?_, str_one _, (Array.getElem?_eq_some_iff.1 h3).1⟩⟩
    · rw [run_sliceAt_slice (P := Try.prog) W 34 _ _ _ _ elem_strs, run_slice_h (P := Try.prog) W 34 _ _ _ elem_strs .i64 (k : Int) (by omega) (by omega), size_str]
      simp only [Result.andThen, sliced, Int.toNat_natCast]
      congr 2
      · split <;> simp [Addr.add]
    · have e : (⟨g, 0, none⟩ : Addr).add j = ⟨g, j, none⟩ := by simp [Addr.add]; omega
      rw [e, cell_of_row w g j cur _ _ h3]
      rw [List.map_take, ← h5, List.take_take, List.getElem?_take] at hj
      split at hj
      · rw [← Array.getElem?_toList]; exact hj
      · cases hj
theorem Tx.tail (h : Tx W0 w v l) {k : Nat} (hk : k ≤ l.length) : ∃ x, (∀ W : World, (Instr.sliceAt 34 v (some (.int .i64 (k : Int))) none none).run Try.prog W = .ok x W) ∧ SrcOf w x (l.length - k) ((l.drop k).map Value.string) := by
  rcases h.form with ⟨rfl, rfl⟩ | ⟨g, cap, cur, rfl, h2, h3, h4, h5⟩
  · have hk0 : k = 0 := by simpa using hk
    subst hk0
    refine ⟨.slice none 0 0, fun W => ?_, .inl ⟨rfl, rfl, rfl⟩⟩
    rw [run_sliceAt_slice (P := Try.prog) W 34 _ _ _ _ elem_strs, run_slice_l (P := Try.prog) W 34 _ _ _ elem_strs .i64 ((0 : Nat) : Int) (by omega) (by simp), size_str]
    rfl
  · obtain ⟨o, ho⟩ := base_any g k cap
    refine ⟨.slice (base g k cap) (l.length - k) (cap - k), fun W => ?_, .inr ⟨⟨g, o, none⟩, cap - k, by rw [ho], by rw [List.length_map, List.length_drop], fun j u hj => ?_, str_one _, (Array.getElem?_eq_some_iff.1 h3).1⟩⟩
    · rw [run_sliceAt_slice (P := Try.prog) W 34 _ _ _ _ elem_strs, run_slice_l (P := Try.prog) W 34 _ _ _ elem_strs .i64 (k : Int) (by omega) (by omega), size_str]
      simp only [Result.andThen, sliced, Int.toNat_natCast, base, Option.map_some, Nat.mul_one]
      congr 2
      split <;> simp [Addr.add] <;> omega
    · have hjl : j < l.length - k := by
        have := (List.getElem?_eq_some_iff.1 hj).1
        rwa [List.length_map, List.length_drop] at this
      rw [base_lt (by omega)] at ho
      have e2 : o = k := by simp at ho; exact ho.symm
      subst e2
      have e : (⟨g, o, none⟩ : Addr).add j = ⟨g, o + j, none⟩ := by simp [Addr.add]
      rw [e, cell_of_row w g _ cur _ _ h3]
      rw [List.map_drop, ← h5, List.getElem?_drop, List.getElem?_take, if_pos (by omega)] at hj
      rw [← Array.getElem?_toList]; exact hj
theorem Tx.all (h : Tx W0 w v l) : SrcOf w v l.length (l.map Value.string) := by
  rcases h.form with ⟨rfl, rfl⟩ | ⟨g, cap, cur, rfl, h2, h3, h4, h5⟩
  · exact .inl ⟨rfl, rfl, rfl⟩
  · refine .inr ⟨⟨g, 0, none⟩, cap, rfl, by rw [List.length_map], fun j u hj => ?_, str_one _, (Array.getElem?_eq_some_iff.1 h3).1⟩
    have e : (⟨g, 0, none⟩ : Addr).add j = ⟨g, j, none⟩ := by simp [Addr.add]; omega
    rw [e, cell_of_row w g j cur _ _ h3]
    rw [← h5, List.getElem?_take] at hj
    split at hj
    · rw [← Array.getElem?_toList]; exact hj
    · cases hj
theorem SrcOf.later {w' : World} {x : Value} {m : Nat} {news : List Value} (h : SrcOf w x m news) (t : Below w.heap.size w w') : SrcOf w' x m news := by
  rcases h with h | ⟨a, c, rfl, h1, h2, h3, h4⟩
  · exact .inl h
  · refine .inr ⟨a, c, rfl, h1, fun j u hj => ?_, h3, Nat.lt_of_lt_of_le h4 t.size⟩
    have e : (a.add j).block = a.block := by unfold Addr.add; split <;> rfl
    have hb : w'.heap[(a.add j).block]? = w.heap[(a.add j).block]? := by rw [e]; exact t.block a.block h4
    exact (World.cell?_of_block hb).trans (h2 j u hj)
/-- what has grown since -/
theorem below_grown {w1 w' : World} {v : Value} (hb : Below w.heap.size w w1) (h : ∀ x, v.ownBlock = some x → w.heap.size ≤ x) (g : w1.grownBy w' v.ownBlock) : Below w.heap.size w w' := hb.grown g hb.size h

/-! ### append -/
set_option maxRecDepth 100000 in
theorem run_app {x : Value} {news : List ByteArray} (ty : TypeId) (h : Tx W0 w v l) (hs : SrcOf w x news.length (news.map Value.string)) (hn : l.length + news.length ≤ 1000000) :
    ∃ v' w', (Builtin.append_ #[34, 34] ty #[v, x]).run Try.prog w = .ok v' w' ∧ Tx W0 w' v' (l ++ news) ∧ w.grownBy w' v.ownBlock := by
  obtain ⟨i0, hi, hz0, hz1, hz2⟩ := info_parts Word.infoS
  rcases hs with ⟨rfl, h2, h3⟩ | ⟨a, c, rfl, h1, h2, h3, _⟩
  · have hnews : news = [] := List.eq_nil_of_length_eq_zero h2
    subst hnews
    exact ⟨v, w, run_append_owned_none (P := Try.prog) (w := w) W0.heap.size 34 ty 9 i0 1 Try.underlying34 hi v l.length _ h.own, by rw [List.append_nil]; exact h, ⟨rfl, rfl, rfl, Nat.le_refl _, fun _ _ _ => rfl⟩⟩
  · obtain ⟨v', w', hr, h4, h5, _⟩ := run_append_own (P := Try.prog) w W0.heap.size 34 ty 9 i0 (.string ⟨#[]⟩) 1 16 Try.underlying34 hi hz0 hz1 hz2 rfl (by decide) v l.length _ h.own a news.length c (news.map Value.string) (by rw [List.length_map, Nat.mul_one]) h2 h3 (by unfold maxLen; omega) (by omega) h.size
    refine ⟨v', w', hr, ⟨?_, Nat.le_trans h.size h5.size⟩, h5⟩
    rw [List.length_append, List.map_append]
    exact h4
section
variable {ops : Array Oper} {rest : List Oper} {o : Oper} {a : Act} {Q : Exit → Act → World → Prop} {K : Act → World → Prop} {E : Prop}
theorem wp_app {x : Value} {news : List ByteArray} (s d : Operand) (ho : o.op = .call { callee := .builtin .append, args := #[s, d], argTypes := #[34, 34] }) (h : Tx W0 w v l) (hs : SrcOf w x news.length (news.map Value.string)) (hn : l.length + news.length ≤ 1000000)
    (h1 : a.eval s = v) (h2 : a.eval d = x) {Q : Exit → Act → World → Prop} (hk : ∀ v' w', Tx W0 w' v' (l ++ news) → w.grownBy w' v.ownBlock → K (a.put o.dst v') w') : o.wp Try.prog a w K Q := by
  obtain ⟨v', w', hr, k1, k2⟩ := run_app (ty := o.type) h hs hn
  unfold Oper.wp execOp
  simp only [ho, resolve, invoke, builtin, Sem.run_bind, Sem.run_pure, Result.andThen_ok, List.map_toArray, List.map_cons, List.map_nil, h1, h2, hr]
  exact hk v' w' k1 k2
theorem wpList_app {x : Value} {news : List ByteArray} (hgd : o.guard = none) (s d : Operand) (ho : o.op = .call { callee := .builtin .append, args := #[s, d], argTypes := #[34, 34] }) (h : Tx W0 w v l) (hs : SrcOf w x news.length (news.map Value.string)) (hn : l.length + news.length ≤ 1000000)
    (h1 : a.eval s = v) (h2 : a.eval d = x) (hk : ∀ v' w', Tx W0 w' v' (l ++ news) → w.grownBy w' v.ownBlock → wpList Try.prog ops Q rest (a.put o.dst v') w') : wpList Try.prog ops Q (o :: rest) a w :=
  wpList_plain hgd fun _ hK => wp_app s d ho h hs hn h1 h2 fun v' w' k1 k2 => hK _ _ (hk v' w' k1 k2)
theorem step_app {x : Value} {news : List ByteArray} (hgd : o.guard = none) (s d : Operand) (ho : o.op = .call { callee := .builtin .append, args := #[s, d], argTypes := #[34, 34] }) (h : Tx W0 w v l) (hs : SrcOf w x news.length (news.map Value.string)) (hn : l.length + news.length ≤ 1000000)
    (h1 : a.eval s = v) (h2 : a.eval d = x) (hk : ∀ v' w', Tx W0 w' v' (l ++ news) → w.grownBy w' v.ownBlock → K (a.put o.dst v') w') : if Region.wanted o (yielded ops a.tmps) = true then Oper.wp Try.prog o a w K Q else E := by
  have hw : Region.wanted o (yielded ops a.tmps) = true := by simp [Region.wanted, hgd]
  rw [if_pos hw]
  exact wp_app s d ho h hs hn h1 h2 hk
end
/-- a new slice of texts -/
theorem Tx.made (W0 : World) {w : World} (l : List ByteArray) (hs : W0.heap.size ≤ w.heap.size) (hl : l.length ≤ 1000000) : Tx W0 (w.alloc (.cells (l.map Value.string).toArray 9)) (.slice (some ⟨w.heap.size, 0, none⟩) l.length l.length) l := by
  refine ⟨?_, by simp; omega⟩
  have := World.ownsRow_lit (base := W0.heap.size) (e := 9) (size := 1) w (l.map Value.string).toArray l.length hs (by unfold maxLen; omega) (by simp)
  simpa using this
/-- a store -/
theorem Tx.store {ad : Option Addr} {cap k : Nat} (h : Tx W0 w (.slice ad l.length cap) l) (hk : k < l.length) (t : ByteArray) :
    ∃ g, ad = some ⟨g, 0, none⟩ ∧ w.cell? ⟨g, k, none⟩ = some (.string (l.getD k ⟨#[]⟩)) ∧ w.frozen? ⟨g, k, none⟩ = false ∧ Tx W0 (w.setCell ⟨g, k, none⟩ (.string t)) (.slice ad l.length cap) (l.set k t) ∧ w.grownBy (w.setCell ⟨g, k, none⟩ (.string t)) (some g) := by
  rcases h.form with ⟨h1, rfl⟩ | ⟨g, cap', cur, h1, h2, h3, h4, h5⟩
  · simp at hk
  · simp only [Value.slice.injEq] at h1
    obtain ⟨rfl, _, rfl⟩ := h1
    have hst := h.own.stored k (.string t)
    refine ⟨g, rfl, ?_, frozen_of_row w g k _ _ h3, ⟨?_, by simpa using h.size⟩, hst.2⟩
    · rw [cell_of_row w g k cur _ _ h3]
      have : (cur.toList.take l.length)[k]? = (l.map Value.string)[k]? := by rw [h5]
      rw [List.getElem?_take, if_pos hk] at this
      rw [← Array.getElem?_toList, this, List.getElem?_map, List.getD_eq_getElem?_getD, List.getElem?_eq_getElem hk]
      rfl
    · rw [List.length_set, List.map_set]
      exact hst.1
theorem Tx.at {ad : Option Addr} {cap k : Nat} (h : Tx W0 w (.slice ad l.length cap) l) (hk : k < l.length) :
    ∃ g, ad = some ⟨g, 0, none⟩ ∧ w.cell? ⟨g, k, none⟩ = some (.string (l.getD k ⟨#[]⟩)) := by
  obtain ⟨g, h1, h2, _⟩ := h.store hk ⟨#[]⟩
  exact ⟨g, h1, h2⟩
end

end Go.Proofs.Ytfcibccipkokoaa.Slot

namespace Go.Proofs.Ytfcibccipkokoaa.Strs
open Go.RowKit Go.ChangeShapes Go.WideShapes Go.Deep
open Go.Proofs.Ytfcibccipkokoaa.Slot

def nth (l : List ByteArray) (k : Nat) : ByteArray := l.getD k .empty
theorem nth_take {l : List ByteArray} {k : Nat} (h : k < l.length) : l.take (k + 1) = l.take k ++ [nth l k] := by
  rw [List.take_succ_eq_append_getElem h]
  unfold nth
  rw [List.getD_eq_getElem?_getD, List.getElem?_eq_getElem h]
  rfl
theorem nth_get {l : List ByteArray} {k : Nat} (h : k < l.length) : l[k]? = some (nth l k) := by
  unfold nth
  rw [List.getD_eq_getElem?_getD, List.getElem?_eq_getElem h]
  rfl
theorem nth_elem {l : List ByteArray} {k : Nat} (h : k < l.length) : l[k] = nth l k := by
  have := nth_get h
  rw [List.getElem?_eq_getElem h] at this
  exact Option.some.inj this
/-- v is a slice of these texts -/
def Rows (w : World) (v : Value) (l : List ByteArray) : Prop :=
  ∃ ad c, v = .slice ad l.length c ∧ (l = [] ∨ ∃ b o, ad = some ⟨b, o, none⟩ ∧ b < w.heap.size ∧ ∀ j, j < l.length → w.cell? ⟨b, o + j, none⟩ = some (.string (nth l j)))
theorem Rows.far {w w' : World} {v : Value} {l : List ByteArray} (h : Rows w v l) (hs : w.heap.size ≤ w'.heap.size) (t : ∀ b, b < w.heap.size → w'.heap[b]? = w.heap[b]?) : Rows w' v l := by
  obtain ⟨ad, c, hv, h1⟩ := h
  refine ⟨ad, c, hv, h1.imp id ?_⟩
  rintro ⟨b, o, ha, hb, hc⟩
  refine ⟨b, o, ha, Nat.lt_of_lt_of_le hb hs, fun j hj => ?_⟩
  rw [World.cell?_of_block (t b hb)]
  exact hc j hj
theorem Rows.later {w w' : World} {v : Value} {l : List ByteArray} (h : Rows w v l) (t : Below w.heap.size w w') : Rows w' v l := h.far t.size t.block
theorem Rows.alloc {w : World} {v : Value} {l : List ByteArray} (h : Rows w v l) (o : Obj) : Rows (w.alloc o) v l := h.later ((Below.refl _ _).alloc (Nat.le_refl _) o)
theorem Rows.nil (w : World) (ad : Option Addr) (c : Nat) : Rows w (.slice ad 0 c) [] := ⟨ad, c, rfl, .inl rfl⟩
theorem Rows.at {w : World} {ad : Option Addr} {c : Nat} {l : List ByteArray} (h : Rows w (.slice ad l.length c) l) {k : Nat} (hk : k < l.length) :
    ∃ b o, ad = some ⟨b, o, none⟩ ∧ b < w.heap.size ∧ w.cell? ⟨b, o + k, none⟩ = some (.string (nth l k)) := by
  obtain ⟨ad', c', hv, h1⟩ := h
  simp only [Value.slice.injEq] at hv
  obtain ⟨rfl, _, rfl⟩ := hv
  rcases h1 with rfl | ⟨b, o, ha, hb, hc⟩
  · simp at hk
  · exact ⟨b, o, ha, hb, hc k hk⟩

theorem beq_yes (s : ByteArray) : (s.toList == s.toList) = true := by simp
theorem beq_no {s t : ByteArray} (h : s ≠ t) : (s.toList == t.toList) = false := by
  rw [beq_eq_false_iff_ne]
  intro e
  rw [Lib.toList_data, Lib.toList_data] at e
  exact h (ByteArray.ext (Array.toList_inj.1 e))

section
variable {H : Type} {enc : TypeId × Value → H} {W : World}
theorem weights_all {P : Program} {e : TypeId} : ∀ {l : List (DataW H)} {d : DataW H}, d ∈ l → ∀ n ∈ d.weights P e, n ∈ DataW.weightsAll P e l
  | [], _, h, _, _ => by cases h
  | x :: r, d, h, n, hn => by
    simp only [DataW.weightsAll, List.mem_append]
    rcases List.mem_cons.1 h with rfl | h
    · exact .inl hn
    · exact .inr (weights_all h n hn)

/-- a slice without an address has no room -/
def NilOk (v : Value) : Prop := ∀ n c, v = .slice none n c → c = 0
/-- a slice is no longer than its room -/
def CapOk (v : Value) : Prop := ∀ ad n c, v = .slice ad n c → n ≤ c ∧ (ad = none → c = 0)
set_option maxRecDepth 100000 in
theorem rows_cap {fuel : Nat} {v : Value} {y : DataW H × List MemPlace} (h : DataW.trod enc Try.prog W 0 (fun _ => true) true fuel 34 [v] = some y) : CapOk v := by
  rcases open_strings Try.underlying34 Try.underlying9 (by kernel_rfl) h with ⟨h1, _⟩ | ⟨a, len, cap, ss, h1, _, hl, hm, hx, hy, hc, _⟩
  · simp at h1
    subst h1
    intro ad n c e
    simp only [Value.slice.injEq] at e
    obtain ⟨rfl, rfl, rfl⟩ := e
    exact ⟨Nat.le_refl _, fun _ => rfl⟩
  · simp at h1
    subst h1
    intro ad n c e
    simp only [Value.slice.injEq] at e
    obtain ⟨rfl, rfl, rfl⟩ := e
    exact ⟨hl, fun h => by cases h⟩
set_option maxRecDepth 100000 in
/-- rows, as they come in -/
theorem rows_of {fuel : Nat} {v : Value} {y : DataW H × List MemPlace} (h : DataW.trod enc Try.prog W 0 (fun _ => true) true fuel 34 [v] = some y) (hz : ∀ n ∈ y.1.weights Try.prog 34, n ≤ 140737488351232) :
    ∃ l : List ByteArray, NilOk v ∧ Rows W v l ∧ l.length ≤ 140737488351232 ∧ ∀ j, j < l.length → (nth l j).size ≤ 140737488351232 := by
  rcases open_strings Try.underlying34 Try.underlying9 (by kernel_rfl) h with ⟨h1, _⟩ | ⟨a, len, cap, ss, h1, _, hl, hm, hx, hy, hc, _⟩
  · simp at h1
    subst h1
    exact ⟨[], (fun n c h => by cases h; rfl), Rows.nil W none 0, by simp, fun j hj => by simp at hj⟩
  · simp at h1
    subst h1
    simp only [if_true] at hx
    have hd : y.1 = .slice (strs (ss.take len)) (strs (ss.drop len)) := congrArg Prod.fst hy
    have hlen : (ss.take len).length = len := by rw [List.length_take]; omega
    have hn : ∀ j, j < len → nth (ss.take len) j = ss.getD j ByteArray.empty := fun j hj => by
      unfold nth
      rw [List.getD_eq_getElem?_getD, List.getD_eq_getElem?_getD, List.getElem?_take, if_pos hj]
    refine ⟨ss.take len, (fun n c h => by cases h), ?_, ?_, fun j hj => ?_⟩
    · by_cases h0 : len = 0
      · subst h0
        rw [List.take_zero]
        exact Rows.nil W _ _
      · have hcell := hc 0 (by omega)
        have hsp : a.spot = none := by
          obtain ⟨x, o, sp⟩ := a
          cases sp with
          | none => rfl
          | some s => simp [Addr.add, World.cell?] at hcell; split at hcell <;> simp at hcell
        obtain ⟨x, o, sp⟩ := a
        simp at hsp
        subst hsp
        have hadd : ∀ j, (⟨x, o, none⟩ : Addr).add j = ⟨x, o + j, none⟩ := fun j => by rw [Addr.add_mid]
        have hx0 : x < W.heap.size := by
          rw [hadd] at hcell
          exact block_lt_of_cell hcell
        refine ⟨some ⟨x, o, none⟩, cap, by rw [hlen], .inr ⟨x, o, rfl, hx0, fun j hj => ?_⟩⟩
        rw [hlen] at hj
        have := hc j (by omega)
        rw [hadd] at this
        rw [this, hn j hj]
    · rw [hlen]
      have := hz (((strs (ss.take len)).length + (strs (ss.drop len)).length) * Try.prog.bytesOf 9) (by
        rw [hd]
        simp only [DataW.weights, Try.underlying34]
        exact List.mem_cons_self ..)
      have hb : Try.prog.bytesOf 9 = 16 := by kernel_rfl
      rw [hb] at this
      have e : (strs (H := H) (ss.take len)).length = len := by unfold strs; rw [List.length_map, hlen]
      rw [e] at this
      omega
    · rw [hlen] at hj
      have hget : (ss.take len)[j]? = some (nth (ss.take len) j) := nth_get (by rw [hlen]; exact hj)
      refine hz _ ?_
      rw [hd]
      simp only [DataW.weights, Try.underlying34]
      refine List.mem_cons_of_mem _ (List.mem_append_left _ (weights_all (d := .lit (.string (nth (ss.take len) j).data.toList)) ?_ _ ?_))
      · unfold strs
        exact List.mem_map.2 ⟨nth (ss.take len) j, List.mem_of_getElem? hget, rfl⟩
      · simp [DataW.weights]

set_option maxRecDepth 100000 in
/-- a slice of texts that comes in -/
theorem strs_arg {B : Nat} {v : Value} {d : DataW H} {p : List MemPlace} (hv : Value.okWide Try.prog W .any B 34 v) (h : DataW.Trod enc Try.prog W 0 (fun _ => true) true 34 v d p) (hz : ∀ n ∈ d.weights Try.prog 34, n ≤ 140737488351232) :
    ∃ l : List ByteArray, (Rows W v l ∧ CapOk v) ∧ l.length ≤ 140737488351232 ∧ ∀ j, j < l.length → (nth l j).size ≤ 140737488351232 := by
  obtain ⟨a, len, cap, rfl⟩ := okWide_slice Try.underlying34 hv
  obtain ⟨fuel, hf⟩ := h
  obtain ⟨l, _, h2, h3, h4⟩ := rows_of hf hz
  exact ⟨l, ⟨h2, rows_cap hf⟩, h3, h4⟩
end
theorem cap_none : CapOk (.slice none 0 0) := by
  intro ad n c e
  simp only [Value.slice.injEq] at e
  obtain ⟨rfl, rfl, rfl⟩ := e
  exact ⟨Nat.le_refl _, fun _ => rfl⟩
theorem cap_tx {W0 w : World} {v : Value} {l : List ByteArray} (h : Tx W0 w v l) : CapOk v := by
  rcases h.form with ⟨rfl, rfl⟩ | ⟨g, cap, cur, rfl, h2, h3, h4, h5⟩
  · exact cap_none
  · intro ad n c e
    simp only [Value.slice.injEq] at e
    obtain ⟨rfl, rfl, rfl⟩ := e
    exact ⟨h4, fun h => by cases h⟩
theorem CapOk.nilOk {v : Value} (h : CapOk v) : NilOk v := fun n c e => (h none n c e).2 rfl
/-- the first ones -/
theorem rows_head {w : World} {v : Value} {l : List ByteArray} (h : Rows w v l) (hc : CapOk v) {k : Nat} (hk : k ≤ l.length) :
    ∃ x, (∀ W : World, (Instr.sliceAt 34 v none (some (.int .i64 (k : Int))) none).run Try.prog W = .ok x W) ∧ Rows w x (l.take k) ∧ CapOk x := by
  obtain ⟨ad, c, rfl, h1⟩ := h
  obtain ⟨g1, g2⟩ := hc _ _ _ rfl
  refine ⟨sliced ad 0 k c 1, fun W => ?_, ?_, ?_⟩
  · rw [run_sliceAt_slice (P := Try.prog) W 34 _ _ _ _ elem_strs, run_slice_h (P := Try.prog) W 34 _ _ _ elem_strs .i64 (k : Int) (by omega) (by omega), size_str]
    rfl
  · unfold sliced
    refine ⟨_, _, by rw [List.length_take, Nat.min_eq_left hk, Nat.sub_zero], ?_⟩
    rcases h1 with rfl | ⟨b, o, rfl, hb, hcell⟩
    · exact .inl (by rw [List.take_nil])
    · refine .inr ⟨b, o, ?_, hb, fun j hj => ?_⟩
      · split
        · rfl
        · rw [Option.map_some, Addr.add_mid]; simp
      · rw [List.length_take] at hj
        rw [hcell j (by omega)]
        unfold nth
        rw [List.getD_eq_getElem?_getD, List.getD_eq_getElem?_getD, List.getElem?_take, if_pos (by omega)]
  · intro ad' n c' e
    unfold sliced at e
    simp only [Value.slice.injEq] at e
    obtain ⟨rfl, rfl, rfl⟩ := e
    refine ⟨by omega, fun h => ?_⟩
    split at h
    · omega
    · have := g2 (Option.map_eq_none_iff.1 h); omega
/-- the other ones -/
theorem rows_tail {w : World} {v : Value} {l : List ByteArray} (h : Rows w v l) (hc : CapOk v) {k : Nat} (hk : k ≤ l.length) :
    ∃ x, (∀ W : World, (Instr.sliceAt 34 v (some (.int .i64 (k : Int))) none none).run Try.prog W = .ok x W) ∧ Rows w x (l.drop k) ∧ CapOk x := by
  obtain ⟨ad, c, rfl, h1⟩ := h
  obtain ⟨g1, g2⟩ := hc _ _ _ rfl
  refine ⟨sliced ad k l.length c 1, fun W => ?_, ?_, ?_⟩
  · rw [run_sliceAt_slice (P := Try.prog) W 34 _ _ _ _ elem_strs, run_slice_l (P := Try.prog) W 34 _ _ _ elem_strs .i64 (k : Int) (by omega) (by omega), size_str]
    rfl
  · unfold sliced
    refine ⟨_, _, by rw [List.length_drop], ?_⟩
    by_cases hkl : k = l.length
    · subst hkl
      exact .inl (List.drop_length ..)
    rcases h1 with rfl | ⟨b, o, rfl, hb, hcell⟩
    · exact .inl (by rw [List.drop_nil])
    · refine .inr ⟨b, o + k, ?_, hb, fun j hj => ?_⟩
      · rw [if_neg (by omega), Option.map_some, Addr.add_mid, Nat.mul_one]
      · rw [List.length_drop] at hj
        rw [Nat.add_assoc, hcell (k + j) (by omega)]
        unfold nth
        rw [List.getD_eq_getElem?_getD, List.getD_eq_getElem?_getD, List.getElem?_drop]
  · intro ad' n c' e
    unfold sliced at e
    simp only [Value.slice.injEq] at e
    obtain ⟨rfl, rfl, rfl⟩ := e
    refine ⟨by omega, fun h => ?_⟩
    split at h
    · omega
    · have := g2 (Option.map_eq_none_iff.1 h); omega

theorem ext_nth {l m : List ByteArray} (h : l.length = m.length) (e : ∀ j, j < l.length → nth l j = nth m j) : l = m := by
  apply List.ext_getElem? 
  intro j
  by_cases hj : j < l.length
  · rw [nth_get hj, nth_get (by omega), e j hj]
  · rw [List.getElem?_eq_none (by omega), List.getElem?_eq_none (by omega)]
theorem rows_tx {W0 w : World} {v : Value} {l : List ByteArray} (h : Tx W0 w v l) : Rows w v l := by
  rcases h.form with ⟨rfl, rfl⟩ | ⟨g, cap, cur, rfl, h2, h3, h4, h5⟩
  · exact Rows.nil w none 0
  · refine ⟨_, _, rfl, .inr ⟨g, 0, rfl, (Array.getElem?_eq_some_iff.1 h3).1, fun j hj => ?_⟩⟩
    rw [Nat.zero_add, cell_of_row _ _ _ _ _ _ h3]
    have : (cur.toList.take l.length)[j]? = (l.map Value.string)[j]? := by rw [h5]
    rw [List.getElem?_take, if_pos hj] at this
    rw [← Array.getElem?_toList, this, List.getElem?_map, nth_get hj]
    rfl

end Go.Proofs.Ytfcibccipkokoaa.Strs

namespace Go.Proofs.Ytfcibccipkokoaa.Page
open Go.RowKit
attribute [local go_sem ↓] Go.wp_at_zero Go.wp_at_succ

/-- v is a slice of these texts -/
def Rows (w : World) (v : Value) (l : List ByteArray) : Prop :=
  ∃ ad c, v = .slice ad l.length c ∧ (l = [] ∨ ∃ b o, ad = some ⟨b, o, none⟩ ∧ b < w.heap.size ∧ ∀ j, j < l.length → w.cell? ⟨b, o + j, none⟩ = some (.string (nth l j)))
theorem Rows.far {w w' : World} {v : Value} {l : List ByteArray} (h : Rows w v l) (hs : w.heap.size ≤ w'.heap.size) (t : ∀ b, b < w.heap.size → w'.heap[b]? = w.heap[b]?) : Rows w' v l := by
  obtain ⟨ad, c, hv, h1⟩ := h
  refine ⟨ad, c, hv, h1.imp id ?_⟩
  rintro ⟨b, o, ha, hb, hc⟩
  refine ⟨b, o, ha, Nat.lt_of_lt_of_le hb hs, fun j hj => ?_⟩
  rw [World.cell?_of_block (t b hb)]
  exact hc j hj
theorem Rows.later {w w' : World} {v : Value} {l : List ByteArray} (h : Rows w v l) (t : Below w.heap.size w w') : Rows w' v l := h.far t.size t.block
theorem Rows.alloc {w : World} {v : Value} {l : List ByteArray} (h : Rows w v l) (o : Obj) : Rows (w.alloc o) v l := h.later ((Below.refl _ _).alloc (Nat.le_refl _) o)
theorem Rows.nil (w : World) (ad : Option Addr) (c : Nat) : Rows w (.slice ad 0 c) [] := ⟨ad, c, rfl, .inl rfl⟩
theorem Rows.at {w : World} {ad : Option Addr} {c : Nat} {l : List ByteArray} (h : Rows w (.slice ad l.length c) l) {k : Nat} (hk : k < l.length) :
    ∃ b o, ad = some ⟨b, o, none⟩ ∧ b < w.heap.size ∧ w.cell? ⟨b, o + k, none⟩ = some (.string (nth l k)) := by
  obtain ⟨ad', c', hv, h1⟩ := h
  simp only [Value.slice.injEq] at hv
  obtain ⟨rfl, _, rfl⟩ := hv
  rcases h1 with rfl | ⟨b, o, ha, hb, hc⟩
  · simp at hk
  · exact ⟨b, o, ha, hb, hc k hk⟩

/-- a page as a value -/
def pgV (p : Pg) (v : Value) : Value := .agg #[.int .u8 (p.kind : Int), .int .u8 (p.level : Int), .int .u32 (p.id : Int), .int .u64 (p.lsn : Int), .int .u32 (p.next : Int), v]

theorem left_step {l : List ByteArray} {k : Nat} (hk : k < l.length) (hu : used l ≤ 1000000) : (nth l k).size ≤ 1000000 ∧ used (l.take (k + 1)) = used (l.take k) + (4 + (nth l k).size) ∧ used (l.take (k + 1)) ≤ used l := by
  have := nth_size hk
  exact ⟨by omega, used_take hk, used_take_le _ _⟩

set_option maxRecDepth 100000 in
set_option maxHeartbeats 1000000 in
theorem left_any {w : World} {v : Value} {l : List ByteArray} (h : Rows w v l) (hu : used l ≤ 1000000) : Calls Try.prog 103 #[v] w fun e w' => e = .returned (.int .i64 (leftI l)) ∧ w = w' := by
  obtain ⟨ad, c, rfl, _⟩ := id h
  have hlen := used_len l
  have H := Lib.hid h
  obtain ⟨n, hn⟩ : ∃ n, n = l.length := ⟨_, rfl⟩
  have N := Lib.hid hn
  have hn2 : n ≤ 1000000 := by omega
  have U := Lib.hid hu
  rw [← hn]
  clear h hu hlen hn
  go_enter Try.func103, Try.ntmps103
  go_wp2_with fail
  go_loop [3, 8] (fun x i => ∃ k m : Nat, k ≤ n ∧ m ≤ 484 ∧ m + used (l.take k) = 484 ∧ x = .int .i64 m ∧ i = .int .i64 k) (fun _ i => n - (intOf i).toNat)
  case atStart => exact ⟨0, 484, by omega, by omega, by rw [List.take_zero, used_nil], by go_num, by go_num⟩
  case round =>
    obtain ⟨k, m, hk, hm, hs, rfl, rfl⟩ := hrel
    by_cases hlt : k < n
    · obtain ⟨b, o, rfl, hb, hc⟩ := H.out.at (k := k) (by rw [← N.out]; exact hlt)
      obtain ⟨t1, t2, t3⟩ := left_step (l := l) (k := k) (by rw [← N.out]; exact hlt) U.out
      obtain ⟨s, hs2⟩ : ∃ s, s = nth l k := ⟨_, rfl⟩
      rw [← hs2] at hc t1 t2
      by_cases hx : m < 4 + s.size
      · have e : leftI l = -1 := by unfold leftI; rw [if_neg (by omega)]
        have E := Lib.hid e
        have X : decide ((m : Int) - (4 + (s.size : Int)) < 0) = true := decide_eq_true (by omega)
        clear hs t2 t3 hs2 e
        go_wp2_with fail
        go_ret
        exact ⟨by rw [E.out]; rfl, rfl⟩
      · obtain ⟨m2, hm2⟩ : ∃ m2 : Nat, m2 + (4 + s.size) = m := ⟨m - (4 + s.size), by omega⟩
        have X : decide ((m : Int) - (4 + (s.size : Int)) < 0) = false := decide_eq_false (by omega)
        have Y : ((m : Int) - (4 + (s.size : Int))) = (m2 : Int) := by omega
        have Z := Lib.hid (show m2 + used (l.take (k + 1)) = 484 by omega)
        clear hs t2 t3 hs2
        go_wp2_with fail
        go_round
        case rel => exact ⟨k + 1, m2, by omega, by omega, Z.out, by go_num, by go_num⟩
        case measure => simp [intOf]; omega
    · obtain rfl : k = n := by omega
      have e : leftI l = (m : Int) := by
        have e1 : l.take k = l := List.take_of_length_le (by rw [← N.out]; omega)
        rw [e1] at hs
        unfold leftI; rw [if_pos (by omega)]; omega
      have E := Lib.hid e
      clear hs e
      go_wp2_with fail
      go_ret
      exact ⟨by rw [E.out]; rfl, rfl⟩

end Go.Proofs.Ytfcibccipkokoaa.Page

namespace Go.Proofs.Ytfcibccipkokoaa.Page
open Go.RowKit
attribute [local go_sem ↓] Go.wp_at_zero Go.wp_at_succ

/-- the cells of a page in a block of its own -/
def pgC (p : Pg) (v : Value) : Array Value := #[.int .u8 (p.kind : Int), .int .u8 (p.level : Int), .int .u32 (p.id : Int), .int .u64 (p.lsn : Int), .int .u32 (p.next : Int), v]
def sameB (p q : Pg) : Bool := decide (p.kind = q.kind ∧ p.level = q.level ∧ p.id = q.id ∧ p.lsn = q.lsn ∧ p.next = q.next ∧ p.rows = q.rows)
theorem same_iff (p q : Pg) : sameB p q = true ↔ p = q := by
  unfold sameB
  rw [decide_eq_true_iff]
  constructor
  · obtain ⟨a, b, c, d, e, f⟩ := p
    obtain ⟨a', b', c', d', e', f'⟩ := q
    simp only
    rintro ⟨rfl, rfl, rfl, rfl, rfl, rfl⟩
    rfl
  · rintro rfl
    exact ⟨rfl, rfl, rfl, rfl, rfl, rfl⟩

theorem equal_any {w : World} {v1 v2 : Value} {l1 l2 : List ByteArray} (h1 : Rows w v1 l1) (h2 : Rows w v2 l2) (n1 : l1.length ≤ 9223372036854775807) (n2 : l2.length ≤ 9223372036854775807) :
    Calls Try.prog 113 #[v1, v2] w fun e w' => e = .returned (.bool (decide (l1 = l2))) ∧ Below w.heap.size w w' := by
  obtain ⟨a1, c1, rfl, k1⟩ := h1
  obtain ⟨a2, c2, rfl, k2⟩ := h2
  by_cases hl : l1.length = l2.length
  · rcases k1 with rfl | ⟨b1, o1, rfl, hb1, hc1⟩
    · refine (Try.slices_Equal_string_empty a1 a2 c1 l2.length c2 w n2).mono ?_
      rintro e w' ⟨rfl, rfl⟩
      refine ⟨ret_bool ?_, Below.refl _ _⟩
      have : l2 = [] := List.eq_nil_of_length_eq_zero hl.symm
      subst this
      rfl
    · rcases k2 with rfl | ⟨b2, o2, rfl, hb2, hc2⟩
      · have : l1 = [] := List.eq_nil_of_length_eq_zero hl
        subst this
        refine (Try.slices_Equal_string_empty (some ⟨b1, o1, none⟩) a2 c1 0 c2 w (by omega)).mono ?_
        rintro e w' ⟨rfl, rfl⟩
        exact ⟨rfl, Below.refl _ _⟩
      · refine (Try.slices_Equal_string b1 o1 l1.length c1 b2 o2 l2.length c2 l1 l2 w (Nat.le_refl _) (Nat.le_refl _) n1 n2 hc1 hc2).mono ?_
        rintro e w' ⟨rfl, q, rfl⟩
        rw [List.take_length, List.take_length]
        exact ⟨rfl, rfl, rfl, rfl, Nat.le_refl _, fun _ _ => rfl⟩
  · refine (Try.slices_Equal_string_lens a1 a2 l1.length c1 l2.length c2 w hl).mono ?_
    rintro e w' ⟨rfl, rfl⟩
    refine ⟨ret_bool ?_, Below.refl _ _⟩
    symm
    rw [decide_eq_false_iff_not]
    rintro rfl
    exact hl rfl

theorem room_left (l : List ByteArray) : max (leftI l - 4) (-1) = roomI l := by
  unfold leftI roomI
  split <;> split <;> omega
theorem left_lt (l : List ByteArray) : -1 ≤ leftI l ∧ leftI l ≤ 484 := by unfold leftI; split <;> omega

theorem may_of (p : Pg) : mayP p = (decide (p.kind ≤ 5) && (decide (1 ≤ p.id) && (decide (p.id ≤ 1024) && (decide (p.next ≤ 1024) && decide (0 ≤ leftI p.rows))))) := by
  unfold mayP leftI
  rw [Bool.eq_iff_iff]
  simp only [Bool.and_eq_true, decide_eq_true_eq]
  split <;> omega

set_option maxRecDepth 100000 in
set_option maxHeartbeats 1000000 in
theorem may_any {w : World} {v : Value} (p : Pg) (h : Rows w v p.rows) (hu : used p.rows ≤ 1000000) : Calls Try.prog 75 #[pgV p v] w fun e w' => e = .returned (.bool (mayP p)) ∧ Below w.heap.size w w' := by
  have L := fun o : Obj => left_any (h.alloc o) hu
  have e := may_of p
  have E := Lib.hid e
  have LL := Lib.hid L
  have B := Lib.hid (fun o : Obj => (Below.refl w.heap.size w).alloc (Nat.le_refl _) o)
  obtain ⟨kind, level, id, lsn, next, rows⟩ := p
  simp only at *
  generalize leftI rows = x at *
  clear L e h hu
  unfold pgV
  simp only
  go_enter Try.func75, Try.ntmps75
  go_wp2_with (go_at_call 103; refine (LL.out _).mono ?_; rintro e w' ⟨rfl, rfl⟩)
  all_goals
    go_ret
    exact ⟨ret_bool (by rw [E.out, Bool.eq_iff_iff]; simp only [Bool.and_eq_true, decide_eq_true_eq, Bool.false_eq_true, false_iff]; omega), B.out _⟩

def cB (a b : Nat) : Bool := decide (a = b)
theorem cB_yes {a b : Nat} (h : (a : Int) = (b : Int)) : cB a b = true := decide_eq_true (by omega)
theorem cB_no {a b : Nat} (h : ¬ (a : Int) = (b : Int)) : cB a b = false := decide_eq_false (by omega)
theorem same_of (p q : Pg) : sameB p q = (cB p.kind q.kind && (cB p.level q.level && (cB p.id q.id && (cB p.lsn q.lsn && (cB p.next q.next && decide (p.rows = q.rows)))))) := by
  unfold sameB cB
  rw [Bool.eq_iff_iff]
  simp only [Bool.and_eq_true, decide_eq_true_eq]

theorem below2 (w : World) (o o2 : Obj) : Below w.heap.size w ((w.alloc o).alloc o2) := ((Below.refl _ _).alloc (Nat.le_refl _) o).alloc (by simp) o2

end Go.Proofs.Ytfcibccipkokoaa.Page

namespace Go.Proofs.Ytfcibccipkokoaa.Page
open Go.RowKit
attribute [local go_sem ↓] Go.wp_at_zero Go.wp_at_succ

def leftR (l : List ByteArray) : Int := 484 - (used l : Int)
theorem pgC_cell (w : World) (p : Pg) (v : Value) : (w.alloc (.cells (pgC p v) 64)).cell? ⟨w.heap.size, 5, none⟩ = some v := by
  rw [cell_of_row _ _ _ _ _ _ (heap_alloc_new w _)]
  rfl

end Go.Proofs.Ytfcibccipkokoaa.Page

namespace Go.Proofs.Ytfcibccipkokoaa.Page
open Go.RowKit Go.ChangeShapes Go.WideShapes Go.Deep

section
variable {H : Type} {enc : TypeId × Value → H} {W : World}

theorem weights_all {P : Program} {e : TypeId} : ∀ {l : List (DataW H)} {d : DataW H}, d ∈ l → ∀ n ∈ d.weights P e, n ∈ DataW.weightsAll P e l
  | [], _, h, _, _ => by cases h
  | x :: r, d, h, n, hn => by
    simp only [DataW.weightsAll, List.mem_append]
    rcases List.mem_cons.1 h with rfl | h
    · exact .inl hn
    · exact .inr (weights_all h n hn)

theorem nat_of {n : Int} (h : 0 ≤ n) : ∃ m : Nat, n = (m : Int) := ⟨n.toNat, by omega⟩
theorem cells_one {cs : List Value} {j : Nat} {v : Value} (h : cs[j]? = some v) : (cs.drop j).take 1 = [v] := by
  obtain ⟨hj, e⟩ := List.getElem?_eq_some_iff.1 h
  rw [List.drop_eq_getElem_cons hj, e]
  rfl

/-- a slice without an address has no room -/
def NilOk (v : Value) : Prop := ∀ n c, v = .slice none n c → c = 0
/-- a slice is no longer than its room -/
def CapOk (v : Value) : Prop := ∀ ad n c, v = .slice ad n c → n ≤ c ∧ (ad = none → c = 0)
set_option maxRecDepth 100000 in
theorem rows_cap {fuel : Nat} {v : Value} {y : DataW H × List MemPlace} (h : DataW.trod enc Try.prog W 0 (fun _ => true) true fuel 34 [v] = some y) : CapOk v := by
  rcases open_strings Try.underlying34 Try.underlying9 (by kernel_rfl) h with ⟨h1, _⟩ | ⟨a, len, cap, ss, h1, _, hl, hm, hx, hy, hc, _⟩
  · simp at h1
    subst h1
    intro ad n c e
    simp only [Value.slice.injEq] at e
    obtain ⟨rfl, rfl, rfl⟩ := e
    exact ⟨Nat.le_refl _, fun _ => rfl⟩
  · simp at h1
    subst h1
    intro ad n c e
    simp only [Value.slice.injEq] at e
    obtain ⟨rfl, rfl, rfl⟩ := e
    exact ⟨hl, fun h => by cases h⟩
set_option maxRecDepth 100000 in
/-- rows, as they come in -/
theorem rows_of {fuel : Nat} {v : Value} {y : DataW H × List MemPlace} (h : DataW.trod enc Try.prog W 0 (fun _ => true) true fuel 34 [v] = some y) (hz : ∀ n ∈ y.1.weights Try.prog 34, n ≤ 140737488351232) :
    ∃ l : List ByteArray, NilOk v ∧ Rows W v l ∧ l.length ≤ 140737488351232 ∧ ∀ j, j < l.length → (nth l j).size ≤ 140737488351232 := by
  rcases open_strings Try.underlying34 Try.underlying9 (by kernel_rfl) h with ⟨h1, _⟩ | ⟨a, len, cap, ss, h1, _, hl, hm, hx, hy, hc, _⟩
  · simp at h1
    subst h1
    exact ⟨[], (fun n c h => by cases h; rfl), Rows.nil W none 0, by simp, fun j hj => by simp at hj⟩
  · simp at h1
    subst h1
    simp only [if_true] at hx
    have hd : y.1 = .slice (strs (ss.take len)) (strs (ss.drop len)) := congrArg Prod.fst hy
    have hlen : (ss.take len).length = len := by rw [List.length_take]; omega
    have hn : ∀ j, j < len → nth (ss.take len) j = ss.getD j ByteArray.empty := fun j hj => by
      unfold nth
      rw [List.getD_eq_getElem?_getD, List.getD_eq_getElem?_getD, List.getElem?_take, if_pos hj]
    refine ⟨ss.take len, (fun n c h => by cases h), ?_, ?_, fun j hj => ?_⟩
    · by_cases h0 : len = 0
      · subst h0
        rw [List.take_zero]
        exact Rows.nil W _ _
      · have hcell := hc 0 (by omega)
        have hsp : a.spot = none := by
          obtain ⟨x, o, sp⟩ := a
          cases sp with
          | none => rfl
          | some s => simp [Addr.add, World.cell?] at hcell; split at hcell <;> simp at hcell
        obtain ⟨x, o, sp⟩ := a
        simp at hsp
        subst hsp
        have hadd : ∀ j, (⟨x, o, none⟩ : Addr).add j = ⟨x, o + j, none⟩ := fun j => by rw [Addr.add_mid]
        have hx0 : x < W.heap.size := by
          rw [hadd] at hcell
          exact block_lt_of_cell hcell
        refine ⟨some ⟨x, o, none⟩, cap, by rw [hlen], .inr ⟨x, o, rfl, hx0, fun j hj => ?_⟩⟩
        rw [hlen] at hj
        have := hc j (by omega)
        rw [hadd] at this
        rw [this, hn j hj]
    · rw [hlen]
      have := hz (((strs (ss.take len)).length + (strs (ss.drop len)).length) * Try.prog.bytesOf 9) (by
        rw [hd]
        simp only [DataW.weights, Try.underlying34]
        exact List.mem_cons_self ..)
      have hb : Try.prog.bytesOf 9 = 16 := by kernel_rfl
      rw [hb] at this
      have e : (strs (H := H) (ss.take len)).length = len := by unfold strs; rw [List.length_map, hlen]
      rw [e] at this
      omega
    · rw [hlen] at hj
      have hget : (ss.take len)[j]? = some (nth (ss.take len) j) := nth_get (by rw [hlen]; exact hj)
      refine hz _ ?_
      rw [hd]
      simp only [DataW.weights, Try.underlying34]
      refine List.mem_cons_of_mem _ (List.mem_append_left _ (weights_all (d := .lit (.string (nth (ss.take len) j).data.toList)) ?_ _ ?_))
      · unfold strs
        exact List.mem_map.2 ⟨nth (ss.take len) j, List.mem_of_getElem? hget, rfl⟩
      · simp [DataW.weights]

/-- a page that came in -/
structure InPg (W : World) (P : Pg) (u : Value) : Prop where
  wf : P.wf
  nil : NilOk u
  rows : Rows W u P.rows
  len : P.rows.length ≤ 140737488351232
  each : ∀ j, j < P.rows.length → (nth P.rows j).size ≤ 140737488351232
  cap : CapOk u

set_option maxRecDepth 100000 in
set_option maxHeartbeats 1000000 in
/-- a page, out of its cells -/
theorem page_of {B : Nat} {v : Value} {d : DataW H} {p : List MemPlace} (hv : Value.okWide Try.prog W .any B 64 v) (h : DataW.Trod enc Try.prog W 0 (fun _ => true) true 64 v d p)
    (hz : ∀ n ∈ d.weights Try.prog 64, n ≤ 140737488351232) : ∃ (P : Pg) (u : Value), v = pgV P u ∧ InPg W P u := by
  obtain ⟨cs, rfl, hcs⟩ := okWide_struct Try.underlying64 hv
  obtain ⟨fuel, hf0⟩ := h
  obtain ⟨ys, m, _, hy, _, hyl, hf⟩ := DataW.trod_struct Try.underlying64 hf0
  have hc6 : cs.size = 6 := hcs.trans (by kernel_rfl)
  obtain ⟨l, rfl⟩ : ∃ l : List Value, cs = l.toArray := ⟨cs.toList, by simp⟩
  have hl6 : l.length = 6 := by simpa using hc6
  match l, hl6 with
  | [v0, v1, v2, v3, v4, v5], _ =>
    match ys, hyl with
    | [y0, y1, y2, y3, y4, y5], _ =>
      have hone : ∀ (i : Nat) (f : Field), _ → _ := hone_of (P := Try.prog) (fs := #[{ name := "Kind", type := 5, offset := 0, embedded := false, tag := "", pkgPath := "", byteOffset := 0 }, { name := "Level", type := 5, offset := 1, embedded := false, tag := "", pkgPath := "", byteOffset := 1 }, { name := "Id", type := 33, offset := 2, embedded := false, tag := "", pkgPath := "", byteOffset := 4 }, { name := "LSN", type := 38, offset := 3, embedded := false, tag := "", pkgPath := "", byteOffset := 8 }, { name := "Next", type := 33, offset := 4, embedded := false, tag := "", pkgPath := "", byteOffset := 16 }, { name := "Rows", type := 34, offset := 5, embedded := false, tag := "", pkgPath := "", byteOffset := 24 }]) (by kernel_rfl)
      have g0 : DataW.trod enc Try.prog W 0 (fun _ => true) true m 5 [v0] = some y0 := by
        have h1 := hf 0 _ rfl
        rw [(hone 0 _ rfl).2] at h1
        exact h1
      have g1 : DataW.trod enc Try.prog W 0 (fun _ => true) true m 5 [v1] = some y1 := by
        have h1 := hf 1 _ rfl
        rw [(hone 1 _ rfl).2] at h1
        exact h1
      have g2 : DataW.trod enc Try.prog W 0 (fun _ => true) true m 33 [v2] = some y2 := by
        have h1 := hf 2 _ rfl
        rw [(hone 2 _ rfl).2] at h1
        exact h1
      have g3 : DataW.trod enc Try.prog W 0 (fun _ => true) true m 38 [v3] = some y3 := by
        have h1 := hf 3 _ rfl
        rw [(hone 3 _ rfl).2] at h1
        exact h1
      have g4 : DataW.trod enc Try.prog W 0 (fun _ => true) true m 33 [v4] = some y4 := by
        have h1 := hf 4 _ rfl
        rw [(hone 4 _ rfl).2] at h1
        exact h1
      have g5 : DataW.trod enc Try.prog W 0 (fun _ => true) true m 34 [v5] = some y5 := by
        have h1 := hf 5 _ rfl
        rw [(hone 5 _ rfl).2] at h1
        exact h1
      obtain ⟨n0, e0, _, w0⟩ := DataW.trod_int Try.underlying5 g0
      obtain ⟨n1, e1, _, w1⟩ := DataW.trod_int Try.underlying5 g1
      obtain ⟨n2, e2, _, w2⟩ := DataW.trod_int Try.underlying33 g2
      obtain ⟨n3, e3, _, w3⟩ := DataW.trod_int Try.underlying38 g3
      obtain ⟨n4, e4, _, w4⟩ := DataW.trod_int Try.underlying33 g4
      simp only [List.cons.injEq, and_true] at e0 e1 e2 e3 e4
      subst e0 e1 e2 e3 e4
      have hd : d = .agg [y0.1, y1.1, y2.1, y3.1, y4.1, y5.1] := by
        simp only [Prod.ext_iff] at hy
        rw [hy.1]; rfl
      have hw : ∀ n ∈ DataW.weightsEach Try.prog [5, 5, 33, 38, 33, 34] [y0.1, y1.1, y2.1, y3.1, y4.1, y5.1], n ≤ 140737488351232 := by
        intro n hn
        refine hz n ?_
        rw [hd]
        simp only [DataW.weights, Try.underlying64]
        exact hn
      obtain ⟨L, hnil, hr, hlen, heach⟩ := rows_of g5 fun n hn => hw n (DataW.weights_mem_each (j := 5) rfl rfl _ hn)
      have b0 := bounds_u8 w0
      have b1 := bounds_u8 w1
      have b2 := bounds_u32 w2
      have b3 := bounds_u64 w3
      have b4 := bounds_u32 w4
      obtain ⟨m0, rfl⟩ := nat_of b0.1
      obtain ⟨m1, rfl⟩ := nat_of b1.1
      obtain ⟨m2, rfl⟩ := nat_of b2.1
      obtain ⟨m3, rfl⟩ := nat_of b3.1
      obtain ⟨m4, rfl⟩ := nat_of b4.1
      refine ⟨⟨m0, m1, m2, m3, m4, L⟩, v5, rfl, ⟨⟨?_, ?_, ?_, ?_, ?_⟩, hnil, hr, hlen, heach, rows_cap g5⟩⟩
      · show m0 < 256; omega
      · show m1 < 256; omega
      · show m2 < 4294967296; omega
      · show m3 < 18446744073709551616; omega
      · show m4 < 4294967296; omega

end

end Go.Proofs.Ytfcibccipkokoaa.Page

namespace Go.Proofs.Ytfcibccipkokoaa.Page
open Go.RowKit Slot

/-- a slice that a call has made is one -/
theorem rows_tx {W0 w : World} {v : Value} {l : List ByteArray} (h : Tx W0 w v l) : Rows w v l := by
  rcases h.form with ⟨rfl, rfl⟩ | ⟨g, cap, cur, rfl, h2, h3, h4, h5⟩
  · exact Rows.nil w none 0
  · refine ⟨_, cap, rfl, .inr ⟨g, 0, rfl, (Array.getElem?_eq_some_iff.1 h3).1, fun j hj => ?_⟩⟩
    rw [cell_of_row w g _ cur _ _ h3, ← Array.getElem?_toList]
    have e : (cur.toList.take l.length)[j]? = (l.map Value.string)[j]? := by rw [h5]
    rw [List.getElem?_take, if_pos hj, List.getElem?_map, nth_get hj] at e
    rw [Nat.zero_add]
    exact e


end Go.Proofs.Ytfcibccipkokoaa.Page

namespace Go.Proofs.Ytfcibccipkokoaa.Page
open Go.RowKit Slot

theorem cap_none : CapOk (.slice none 0 0) := by
  intro ad n c e
  simp only [Value.slice.injEq] at e
  obtain ⟨rfl, rfl, rfl⟩ := e
  exact ⟨Nat.le_refl _, fun _ => rfl⟩
theorem cap_tx {W0 w : World} {v : Value} {l : List ByteArray} (h : Tx W0 w v l) : CapOk v := by
  rcases h.form with ⟨rfl, rfl⟩ | ⟨g, cap, cur, rfl, h2, h3, h4, h5⟩
  · exact cap_none
  · intro ad n c e
    simp only [Value.slice.injEq] at e
    obtain ⟨rfl, rfl, rfl⟩ := e
    exact ⟨h4, fun h => by cases h⟩
theorem CapOk.nilOk {v : Value} (h : CapOk v) : NilOk v := fun n c e => (h none n c e).2 rfl
/-- the first ones -/
theorem rows_head {w : World} {v : Value} {l : List ByteArray} (h : Rows w v l) (hc : CapOk v) {k : Nat} (hk : k ≤ l.length) :
    ∃ x, (∀ W : World, (Instr.sliceAt 34 v none (some (.int .i64 (k : Int))) none).run Try.prog W = .ok x W) ∧ Rows w x (l.take k) ∧ CapOk x := by
  obtain ⟨ad, c, rfl, h1⟩ := h
  obtain ⟨g1, g2⟩ := hc _ _ _ rfl
  refine ⟨sliced ad 0 k c 1, fun W => ?_, ?_, ?_⟩
  · rw [run_sliceAt_slice (P := Try.prog) W 34 _ _ _ _ elem_strs, run_slice_h (P := Try.prog) W 34 _ _ _ elem_strs .i64 (k : Int) (by omega) (by omega), size_str]
    rfl
  · unfold sliced
    refine ⟨_, _, by rw [List.length_take, Nat.min_eq_left hk, Nat.sub_zero], ?_⟩
    rcases h1 with rfl | ⟨b, o, rfl, hb, hcell⟩
    · exact .inl (by rw [List.take_nil])
    · refine .inr ⟨b, o, ?_, hb, fun j hj => ?_⟩
      · split
        · rfl
        · rw [Option.map_some, Addr.add_mid]; simp
      · rw [List.length_take] at hj
        rw [hcell j (by omega)]
        unfold nth
        rw [List.getD_eq_getElem?_getD, List.getD_eq_getElem?_getD, List.getElem?_take, if_pos (by omega)]
  · intro ad' n c' e
    unfold sliced at e
    simp only [Value.slice.injEq] at e
    obtain ⟨rfl, rfl, rfl⟩ := e
    refine ⟨by omega, fun h => ?_⟩
    split at h
    · omega
    · have := g2 (Option.map_eq_none_iff.1 h); omega
/-- the other ones -/
theorem rows_tail {w : World} {v : Value} {l : List ByteArray} (h : Rows w v l) (hc : CapOk v) {k : Nat} (hk : k ≤ l.length) :
    ∃ x, (∀ W : World, (Instr.sliceAt 34 v (some (.int .i64 (k : Int))) none none).run Try.prog W = .ok x W) ∧ Rows w x (l.drop k) ∧ CapOk x := by
  obtain ⟨ad, c, rfl, h1⟩ := h
  obtain ⟨g1, g2⟩ := hc _ _ _ rfl
  refine ⟨sliced ad k l.length c 1, fun W => ?_, ?_, ?_⟩
  · rw [run_sliceAt_slice (P := Try.prog) W 34 _ _ _ _ elem_strs, run_slice_l (P := Try.prog) W 34 _ _ _ elem_strs .i64 (k : Int) (by omega) (by omega), size_str]
    rfl
  · unfold sliced
    refine ⟨_, _, by rw [List.length_drop], ?_⟩
    by_cases hkl : k = l.length
    · subst hkl
      exact .inl (List.drop_length ..)
    rcases h1 with rfl | ⟨b, o, rfl, hb, hcell⟩
    · exact .inl (by rw [List.drop_nil])
    · refine .inr ⟨b, o + k, ?_, hb, fun j hj => ?_⟩
      · rw [if_neg (by omega), Option.map_some, Addr.add_mid, Nat.mul_one]
      · rw [List.length_drop] at hj
        rw [Nat.add_assoc, hcell (k + j) (by omega)]
        unfold nth
        rw [List.getD_eq_getElem?_getD, List.getD_eq_getElem?_getD, List.getElem?_drop]
  · intro ad' n c' e
    unfold sliced at e
    simp only [Value.slice.injEq] at e
    obtain ⟨rfl, rfl, rfl⟩ := e
    refine ⟨by omega, fun h => ?_⟩
    split at h
    · omega
    · have := g2 (Option.map_eq_none_iff.1 h); omega

end Go.Proofs.Ytfcibccipkokoaa.Page

namespace Go.Proofs.Ytfcibccipkokoaa.Page
open Go.RowKit

theorem results_page {fn : Func} {p k : Tmp} (h : fn.results = #[.cell p 64, .tmp k]) (tmps : Array Value) (w : World) (g : Nat) (cs : Array Value) (c : Int) (hp : tmps.getD p undef = .pointer (some ⟨g, 0, none⟩)) (hk : tmps.getD k undef = .int .i64 c) (hg : w.heap[g]? = some (.cells cs 64 (0, 0)))
    (hi : (Try.prog.info? 64).map (·.size) = some cs.size) : (results fn tmps).run Try.prog w = .ok (.tuple #[.agg cs, .int .i64 c]) w := by
  have hp' : tmps[p]?.getD undef = .pointer (some ⟨g, 0, none⟩) := by simpa using hp
  have hk' : tmps[k]?.getD undef = .int .i64 c := by simpa using hk
  simp [results, h, hp', hk', asAddr, run_loadVar_row w g 64 64 cs (0, 0) _ hg Try.underlying64 rfl hi]
theorem info_page : (Try.prog.info? 64).map (·.size) = some 6 := by kernel_rfl

/-- an empty page's cells -/
def zeroP : Array Value := #[.int .u8 0, .int .u8 0, .int .u32 0, .int .u64 0, .int .u32 0, .slice none 0 0]
theorem zero_one : zeroP.all (·.oneCell') = true := Array.all_eq_true_iff_forall_mem.2 (by
  intro v hv
  simp [zeroP] at hv
  rcases hv with rfl | rfl | rfl | rfl | rfl <;> rfl)
theorem zero_agg : Value.agg zeroP = pgV Pg.zero (.slice none 0 0) := rfl

end Go.Proofs.Ytfcibccipkokoaa.Page

namespace Go.Proofs.Ytfcibccipkokoaa.Page
open Go.RowKit Slot

set_option maxRecDepth 100000 in
/-- append of rows that came in -/
theorem run_app_in {W0 w : World} {v x : Value} {l news : List ByteArray} (ty : TypeId) (h : Tx W0 w v l) (hx : Rows w x news) (hnil : NilOk x) (hn : l.length + news.length ≤ 1000000) :
    ∃ v' w', (Builtin.append_ #[34, 34] ty #[v, x]).run Try.prog w = .ok v' w' ∧ Tx W0 w' v' (l ++ news) ∧ w.grownBy w' v.ownBlock := by
  obtain ⟨ad, c, rfl, hr⟩ := hx
  cases ad with
  | none =>
    have hc : c = 0 := hnil _ _ rfl
    subst hc
    rcases hr with rfl | ⟨b, o, ha, _⟩
    · exact run_app ty h (.inl ⟨rfl, rfl, rfl⟩) hn
    · cases ha
  | some a =>
    obtain ⟨i0, hi, hz0, hz1, hz2⟩ := info_parts Word.infoS
    have hcell : ∀ j u, (news.map Value.string)[j]? = some u → w.cell? (a.add j) = some u := fun j u hj => by
      rcases hr with rfl | ⟨b, o, ha, _, hc⟩
      · simp at hj
      · cases ha
        rw [List.getElem?_map] at hj
        obtain ⟨s, hs, rfl⟩ := Option.map_eq_some_iff.1 hj
        have hjl := (List.getElem?_eq_some_iff.1 hs).1
        rw [nth_get hjl] at hs
        cases hs
        rw [Addr.add_mid]
        exact hc j hjl
    obtain ⟨v', w', hr', h4, h5, _⟩ := run_append_own (P := Try.prog) w W0.heap.size 34 ty 9 i0 (.string ⟨#[]⟩) 1 16 Try.underlying34 hi hz0 hz1 hz2 rfl (by decide) v l.length _ h.own a news.length c (news.map Value.string) (by rw [List.length_map, Nat.mul_one]) hcell (str_one _) (by unfold maxLen; omega) (by omega) h.size
    refine ⟨v', w', hr', ⟨?_, Nat.le_trans h.size h5.size⟩, h5⟩
    rw [List.length_append, List.map_append]
    exact h4

section
variable {ops : Array Oper} {rest : List Oper} {o : Oper} {a : Act} {Q : Exit → Act → World → Prop} {K : Act → World → Prop} {E : Prop} {W0 w : World} {v x : Value} {l news : List ByteArray}
theorem wp_app_in (s d : Operand) (ho : o.op = .call { callee := .builtin .append, args := #[s, d], argTypes := #[34, 34] }) (h : Tx W0 w v l) (hx : Rows w x news) (hnil : NilOk x) (hn : l.length + news.length ≤ 1000000)
    (h1 : a.eval s = v) (h2 : a.eval d = x) {Q : Exit → Act → World → Prop} (hk : ∀ v' w', Tx W0 w' v' (l ++ news) → w.grownBy w' v.ownBlock → K (a.put o.dst v') w') : o.wp Try.prog a w K Q := by
  obtain ⟨v', w', hr, k1, k2⟩ := run_app_in (ty := o.type) h hx hnil hn
  unfold Oper.wp execOp
  simp only [ho, resolve, invoke, builtin, Sem.run_bind, Sem.run_pure, Result.andThen_ok, List.map_toArray, List.map_cons, List.map_nil, h1, h2, hr]
  exact hk v' w' k1 k2
theorem wpList_app_in (hgd : o.guard = none) (s d : Operand) (ho : o.op = .call { callee := .builtin .append, args := #[s, d], argTypes := #[34, 34] }) (h : Tx W0 w v l) (hx : Rows w x news) (hnil : NilOk x) (hn : l.length + news.length ≤ 1000000)
    (h1 : a.eval s = v) (h2 : a.eval d = x) (hk : ∀ v' w', Tx W0 w' v' (l ++ news) → w.grownBy w' v.ownBlock → wpList Try.prog ops Q rest (a.put o.dst v') w') : wpList Try.prog ops Q (o :: rest) a w :=
  wpList_plain hgd fun _ hK => wp_app_in s d ho h hx hnil hn h1 h2 fun v' w' k1 k2 => hK _ _ (hk v' w' k1 k2)
theorem step_app_in (hgd : o.guard = none) (s d : Operand) (ho : o.op = .call { callee := .builtin .append, args := #[s, d], argTypes := #[34, 34] }) (h : Tx W0 w v l) (hx : Rows w x news) (hnil : NilOk x) (hn : l.length + news.length ≤ 1000000)
    (h1 : a.eval s = v) (h2 : a.eval d = x) (hk : ∀ v' w', Tx W0 w' v' (l ++ news) → w.grownBy w' v.ownBlock → K (a.put o.dst v') w') : if Region.wanted o (yielded ops a.tmps) = true then Oper.wp Try.prog o a w K Q else E := by
  have hw : Region.wanted o (yielded ops a.tmps) = true := by simp [Region.wanted, hgd]
  rw [if_pos hw]
  exact wp_app_in s d ho h hx hnil hn h1 h2 hk
end


end Go.Proofs.Ytfcibccipkokoaa.Page
