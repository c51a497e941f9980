/-
  The disk's plain mathematics: what a disk is, what each call makes of it.
  A disk in memory: its blocks, what a call may touch.
-/
import Derived.Lib.UnsafeStr
import Derived.Test.YtgohpompgiljiaaProg
import Derived.WalkKit
import Derived.WalkSpells
import Derived.WalkLawsBesides
import Derived.Lib.Hide
import Derived.Laws.Rows
import Derived.Laws.CopyOwn
import Derived.Laws.MakeOwn
import Derived.Laws.IdiomCopy
import Derived.Maps.OwnSet
import Derived.Maps.Views
import Derived.Deep.MidRow
import Derived.Deep.Upon
import Derived.Deep.Draws
namespace Go.Proofs.Ytgohpompgiljiaa.Disk
open Go

/-- what a disk is: the sectors that are sure, the writes that are loose, the fuse (-1: none) -/
structure D where
  sure : List (List UInt8)
  loose : List (Nat × List UInt8)
  fuse : Int

def settle (s : List (List UInt8)) (x : Nat × List UInt8) : List (List UInt8) := s.set x.1 x.2
def settleAll (s : List (List UInt8)) (l : List (Nat × List UInt8)) : List (List UInt8) := l.foldl settle s
/-- which of the writes is the newest one of a sector -/
def newest : List (Nat × List UInt8) → Nat → Option Nat
  | [], _ => none
  | x :: r, k => match newest r k with
    | some i => some (i + 1)
    | none => if x.1 = k then some 0 else none
/-- the writes that a crash keeps -/
def kept : List (Nat × List UInt8) → List Bool → List (Nat × List UInt8)
  | [], _ => []
  | _ :: _, [] => []
  | x :: r, b :: bs => if b then x :: kept r bs else kept r bs

structure D.ok (d : D) : Prop where
  one : 1 ≤ d.sure.length
  most : d.sure.length ≤ 16384
  each : ∀ t ∈ d.sure, t.length = 128
  there : ∀ x ∈ d.loose, x.1 < d.sure.length ∧ x.2.length = 128
  low : -1 ≤ d.fuse
  high : d.fuse ≤ 9223372036854775807

/-- what a sector has -/
def now (d : D) (k : Nat) : List UInt8 := match newest d.loose k with
  | some i => (d.loose.getD i (0, [])).2
  | none => d.sure.getD k []
/-- a call that the fuse counts -/
def burnt (f : Int) : Int := if 0 < f then f - 1 else f
def D.write (d : D) (k : Nat) (t : List UInt8) : D := ⟨d.sure, d.loose ++ [(k, t)], burnt d.fuse⟩
def D.sync (d : D) : D := ⟨settleAll d.sure d.loose, [], burnt d.fuse⟩
def D.crash (d : D) (keep : List Bool) : D := ⟨settleAll d.sure (kept d.loose keep), [], -1⟩
def D.setFuse (d : D) (n : Int) : D := ⟨d.sure, d.loose, n⟩
/-- a sector of one byte -/
def fullL (c : UInt8) : List UInt8 := List.replicate 128 c
theorem fullL_len (c : UInt8) : (fullL c).length = 128 := List.length_replicate
def D.new (n : Nat) : D := ⟨List.replicate n (fullL 0), [], -1⟩

/-! ### lists whose parts have one length -/
section
variable {α β : Type} {f : α → List β} {m : Nat}
theorem fm_len : ∀ (l : List α), (∀ x ∈ l, (f x).length = m) → (l.flatMap f).length = l.length * m
  | [], _ => by simp
  | x :: r, h => by
    rw [List.flatMap_cons, List.length_append, fm_len r (fun y hy => h y (by simp [hy])), h x (by simp), List.length_cons, Nat.add_mul]
    omega
theorem fm_get : ∀ (l : List α), (∀ x ∈ l, (f x).length = m) → ∀ (k : Nat) (x : α), l[k]? = some x → ∀ j, j < m → (l.flatMap f)[k * m + j]? = (f x)[j]?
  | [], _, k, x, hk, _, _ => by simp at hk
  | y :: r, h, 0, x, hk, j, hj => by
    simp at hk
    subst hk
    rw [List.flatMap_cons, List.getElem?_append_left (by rw [h y (by simp)]; omega)]
    simp
  | y :: r, h, k + 1, x, hk, j, hj => by
    have hy := h y (by simp)
    rw [List.flatMap_cons, List.getElem?_append_right (by rw [hy, Nat.add_mul]; omega), hy]
    have e : (k + 1) * m + j - m = k * m + j := by rw [Nat.add_mul]; omega
    rw [e]
    exact fm_get r (fun z hz => h z (by simp [hz])) k x (by simpa using hk) j hj
theorem fm_set : ∀ (l : List α), (∀ x ∈ l, (f x).length = m) → ∀ (k : Nat), k < l.length → ∀ x, (l.flatMap f).take (k * m) ++ f x ++ (l.flatMap f).drop (k * m + m) = (l.set k x).flatMap f
  | [], _, k, hk, _ => by simp at hk
  | y :: r, h, 0, _, x => by
    have hy := h y (by simp)
    have e : 0 * m + m = (f y).length := by omega
    rw [e, List.flatMap_cons, List.drop_left]
    simp
  | y :: r, h, k + 1, hk, x => by
    have hy := h y (by simp)
    have ih := fm_set r (fun z hz => h z (by simp [hz])) k (by simpa using hk) x
    have e1 : (k + 1) * m = (f y).length + k * m := by rw [hy, Nat.add_mul]; omega
    rw [e1, List.flatMap_cons, List.take_length_add_append, Nat.add_assoc, List.drop_length_add_append, List.set_cons_succ, List.flatMap_cons, ← ih]
    simp
end

/-- the cells of sectors; of a write; of writes -/
def flat (ss : List (List UInt8)) : List Value := ss.flatMap Lib.byteCells
def cellsW (x : Nat × List UInt8) : List Value := .int .i64 (x.1 : Int) :: Lib.byteCells x.2
def flatW (l : List (Nat × List UInt8)) : List Value := l.flatMap cellsW

theorem byteCells_len (l : List UInt8) : (Lib.byteCells l).length = l.length := by simp [Lib.byteCells]
theorem byteCells_one (l : List UInt8) : ∀ v ∈ Lib.byteCells l, v.oneCell' = true := by
  intro v hv
  simp [Lib.byteCells] at hv
  obtain ⟨b, _, rfl⟩ := hv
  rfl
theorem cellsW_len {x : Nat × List UInt8} (h : x.2.length = 128) : (cellsW x).length = 129 := by simp [cellsW, byteCells_len, h]
theorem cellsW_one (x : Nat × List UInt8) : ∀ v ∈ cellsW x, v.oneCell' = true := by
  intro v hv
  simp only [cellsW, List.mem_cons] at hv
  rcases hv with rfl | hv
  · rfl
  · exact byteCells_one _ v hv
theorem flat_len {ss : List (List UInt8)} (h : ∀ t ∈ ss, t.length = 128) : (flat ss).length = ss.length * 128 := fm_len ss (fun x hx => by rw [byteCells_len]; exact h x hx)
theorem flatW_len {l : List (Nat × List UInt8)} (h : ∀ x ∈ l, x.2.length = 128) : (flatW l).length = l.length * 129 := fm_len l (fun x hx => cellsW_len (h x hx))
theorem flat_get {ss : List (List UInt8)} (h : ∀ t ∈ ss, t.length = 128) {k : Nat} {t : List UInt8} (hk : ss[k]? = some t) {j : Nat} (hj : j < 128) : (flat ss)[k * 128 + j]? = (Lib.byteCells t)[j]? :=
  fm_get ss (fun x hx => by rw [byteCells_len]; exact h x hx) k t hk j hj
theorem flatW_get {l : List (Nat × List UInt8)} (h : ∀ x ∈ l, x.2.length = 128) {k : Nat} {x : Nat × List UInt8} (hk : l[k]? = some x) {j : Nat} (hj : j < 129) : (flatW l)[k * 129 + j]? = (cellsW x)[j]? :=
  fm_get l (fun x hx => cellsW_len (h x hx)) k x hk j hj
theorem flat_set {ss : List (List UInt8)} (h : ∀ t ∈ ss, t.length = 128) {k : Nat} (hk : k < ss.length) (t : List UInt8) : (flat ss).take (k * 128) ++ Lib.byteCells t ++ (flat ss).drop (k * 128 + 128) = flat (ss.set k t) :=
  fm_set ss (fun x hx => by rw [byteCells_len]; exact h x hx) k hk t
theorem flatW_snoc (l : List (Nat × List UInt8)) (x : Nat × List UInt8) : flatW (l ++ [x]) = flatW l ++ cellsW x := by simp [flatW, List.flatMap_append]
theorem flat_snoc (l : List (List UInt8)) (x : List UInt8) : flat (l ++ [x]) = flat l ++ Lib.byteCells x := by simp [flat, List.flatMap_append]
theorem flat_eq (l : List (List UInt8)) : flat l = Lib.byteCells l.flatten := by
  induction l with
  | nil => rfl
  | cons x r ih => simp [flat, Lib.byteCells] at *; rw [← ih]

/-! ### what is newest, what is kept -/
theorem newest_snoc (k' : Nat) (t : List UInt8) (k : Nat) : ∀ l, newest (l ++ [(k', t)]) k = if k' = k then some l.length else newest l k
  | [] => by by_cases h : k' = k <;> simp [newest, h]
  | x :: r => by
    rw [List.cons_append]
    by_cases h : k' = k
    · subst h
      have := newest_snoc k' t k' r
      rw [if_pos rfl] at this
      simp [newest, this]
    · have := newest_snoc k' t k r
      rw [if_neg h] at this
      simp [newest, this, h]
theorem newest_lt (k : Nat) : ∀ l i, newest l k = some i → i < l.length
  | [], i, h => by simp [newest] at h
  | x :: r, i, h => by
    simp only [newest] at h
    split at h
    · rename_i j hj
      have := newest_lt k r j hj
      simp at h
      simp; omega
    · split at h
      · simp at h; subst h; simp
      · simp at h
theorem newest_at (k : Nat) : ∀ l i, newest l k = some i → ∃ t, l[i]? = some (k, t)
  | [], i, h => by simp [newest] at h
  | x :: r, i, h => by
    simp only [newest] at h
    split at h
    · rename_i j hj
      obtain ⟨t, ht⟩ := newest_at k r j hj
      simp at h
      subst h
      exact ⟨t, by simpa using ht⟩
    · split at h
      · rename_i hx
        simp at h; subst h
        exact ⟨x.2, by simp [← hx]⟩
      · simp at h

theorem settle_len (s : List (List UInt8)) (x : Nat × List UInt8) : (settle s x).length = s.length := by simp [settle]
theorem settleAll_len (l : List (Nat × List UInt8)) : ∀ s, (settleAll s l).length = s.length := by
  induction l with
  | nil => intro s; rfl
  | cons x r ih => intro s; show (settleAll (settle s x) r).length = _; rw [ih, settle_len]
theorem settleAll_snoc (s : List (List UInt8)) (l : List (Nat × List UInt8)) (x : Nat × List UInt8) : settleAll s (l ++ [x]) = settle (settleAll s l) x := by simp [settleAll, List.foldl_append]
theorem settle_each {s : List (List UInt8)} {x : Nat × List UInt8} (h : ∀ t ∈ s, t.length = 128) (hx : x.2.length = 128) : ∀ t ∈ settle s x, t.length = 128 := by
  intro t ht
  rcases List.mem_or_eq_of_mem_set ht with h1 | h1
  · exact h t h1
  · rw [h1]; exact hx
theorem settleAll_each : ∀ (l : List (Nat × List UInt8)) (s : List (List UInt8)), (∀ t ∈ s, t.length = 128) → (∀ x ∈ l, x.2.length = 128) → ∀ t ∈ settleAll s l, t.length = 128
  | [], s, h, _ => h
  | x :: r, s, h, hl => settleAll_each r (settle s x) (settle_each h (hl x (by simp))) (fun y hy => hl y (by simp [hy]))

theorem kept_take (i : Nat) : ∀ (l : List (Nat × List UInt8)) (keep : List Bool) (x : Nat × List UInt8), l[i]? = some x →
    kept (l.take (i + 1)) keep = if keep[i]? = some true then kept (l.take i) keep ++ [x] else kept (l.take i) keep := by
  induction i with
  | zero =>
    intro l keep x hx
    match l, keep, hx with
    | y :: r, [], hx => simp [kept]
    | y :: r, b :: bs, hx =>
      simp at hx
      subst hx
      cases b <;> simp [kept]
  | succ i ih =>
    intro l keep x hx
    match l, keep, hx with
    | y :: r, [], hx => simp [kept]
    | y :: r, b :: bs, hx =>
      have := ih r bs x (by simpa using hx)
      rw [List.take_succ_cons, List.take_succ_cons]
      simp only [kept, List.getElem?_cons_succ]
      rw [this]
      by_cases h : bs[i]? = some true <;> cases b <;> simp [h]
theorem kept_sub : ∀ (l : List (Nat × List UInt8)) (keep : List Bool), ∀ x ∈ kept l keep, x ∈ l
  | [], _, x, h => by simp [kept] at h
  | _ :: _, [], x, h => by simp [kept] at h
  | y :: r, b :: bs, x, h => by
    simp only [kept] at h
    split at h
    · simp only [List.mem_cons] at h
      rcases h with rfl | h
      · simp
      · exact List.mem_cons_of_mem _ (kept_sub r bs x h)
    · exact List.mem_cons_of_mem _ (kept_sub r bs x h)

/-- what a sector has is what it has once all is settled -/
theorem settleAll_get : ∀ (l : List (Nat × List UInt8)) (s : List (List UInt8)) (k : Nat), k < s.length → (settleAll s l)[k]? = some (match newest l k with | some i => (l.getD i (0, [])).2 | none => s.getD k [])
  | [], s, k, h => by simp [settleAll, newest, h]
  | x :: r, s, k, h => by
    show (settleAll (settle s x) r)[k]? = _
    rw [settleAll_get r (settle s x) k (by rw [settle_len]; exact h)]
    simp only [newest]
    cases hn : newest r k with
    | some i => simp
    | none =>
      by_cases hx : x.1 = k
      · simp [hx, settle, List.getD, h]
      · simp [hx, settle, List.getD, h]
theorem now_eq (d : D) (k : Nat) (h : k < d.sure.length) : (settleAll d.sure d.loose)[k]? = some (now d k) := settleAll_get d.loose d.sure k h
theorem now_len {d : D} (h : d.ok) {k : Nat} (hk : k < d.sure.length) : (now d k).length = 128 := by
  have h1 := now_eq d k hk
  exact settleAll_each d.loose d.sure h.each (fun x hx => (h.there x hx).2) _ (List.mem_of_getElem? h1)

/-! ### what stays -/
theorem burnt_low {f : Int} (h : -1 ≤ f) : -1 ≤ burnt f := by unfold burnt; split <;> omega
theorem burnt_high {f : Int} (h : f ≤ 9223372036854775807) : burnt f ≤ 9223372036854775807 := by unfold burnt; split <;> omega
theorem D.ok.write {d : D} (h : d.ok) {k : Nat} {t : List UInt8} (hk : k < d.sure.length) (ht : t.length = 128) : (d.write k t).ok :=
  ⟨h.one, h.most, h.each, fun x hx => by
    simp only [D.write, List.mem_append, List.mem_singleton] at hx
    rcases hx with hx | rfl
    · exact h.there x hx
    · exact ⟨hk, ht⟩, burnt_low h.low, burnt_high h.high⟩
theorem D.ok.settled {d : D} (h : d.ok) {l : List (Nat × List UInt8)} (hl : ∀ x ∈ l, x ∈ d.loose) {f : Int} (h1 : -1 ≤ f) (h2 : f ≤ 9223372036854775807) (lo : List (Nat × List UInt8)) (hlo : ∀ x ∈ lo, x ∈ d.loose) : (D.mk (settleAll d.sure l) lo f).ok :=
  ⟨by show 1 ≤ (settleAll d.sure l).length; rw [settleAll_len]; exact h.one, by show (settleAll d.sure l).length ≤ _; rw [settleAll_len]; exact h.most,
   settleAll_each l d.sure h.each (fun x hx => (h.there x (hl x hx)).2), fun x hx => by show _ < (settleAll d.sure l).length ∧ _; rw [settleAll_len]; exact h.there x (hlo x hx), h1, h2⟩
theorem D.ok.sync {d : D} (h : d.ok) : d.sync.ok := h.settled (fun _ hx => hx) (burnt_low h.low) (burnt_high h.high) [] (by simp)
theorem D.ok.crash {d : D} (h : d.ok) (keep : List Bool) : (d.crash keep).ok := h.settled (kept_sub _ _) (by omega) (by omega) [] (by simp)
theorem D.ok.setFuse {d : D} (h : d.ok) {n : Int} (h1 : -1 ≤ n) (h2 : n ≤ 9223372036854775807) : (d.setFuse n).ok := ⟨h.one, h.most, h.each, h.there, h1, h2⟩
theorem D.ok_new {n : Nat} (h1 : 1 ≤ n) (h2 : n ≤ 16384) : (D.new n).ok :=
  ⟨by simp [D.new, h1], by simp [D.new, h2], by intro t ht; simp [D.new] at ht; rw [ht.2]; exact fullL_len 0, by simp [D.new], by simp [D.new], by simp [D.new]⟩

end Go.Proofs.Ytgohpompgiljiaa.Disk

namespace Go.Proofs.Ytgohpompgiljiaa.Disk
open Go.RowKit

/-- what may be touched: F, and what is new -/
structure Touch (F : Nat → Prop) (w w' : World) : Prop where
  os : w'.os = w.os
  tape : w'.tape = w.tape
  output : w'.output = w.output
  size : w.heap.size ≤ w'.heap.size
  block : ∀ b, b < w.heap.size → ¬ F b → w'.heap[b]? = w.heap[b]?
def grew (F : Nat → Prop) (w w' : World) (b : Nat) : Prop := F b ∨ (w.heap.size ≤ b ∧ b < w'.heap.size)

theorem Touch.refl (F : Nat → Prop) (w : World) : Touch F w w := ⟨rfl, rfl, rfl, Nat.le_refl _, fun _ _ _ => rfl⟩
theorem Touch.trans {F G : Nat → Prop} {a b c : World} (h : Touch F a b) (k : Touch G b c) (hG : ∀ x, x < a.heap.size → G x → F x) : Touch F a c :=
  ⟨k.os.trans h.os, k.tape.trans h.tape, k.output.trans h.output, Nat.le_trans h.size k.size, fun x hx hF => (k.block x (Nat.lt_of_lt_of_le hx h.size) (fun hg => hF (hG x hx hg))).trans (h.block x hx hF)⟩
theorem Touch.trans' {F : Nat → Prop} {a b c : World} (h : Touch F a b) (k : Touch F b c) : Touch F a c := h.trans k fun _ _ hx => hx
theorem Touch.step {F : Nat → Prop} {a b c : World} (h : Touch F a b) (k : Touch (grew F a b) b c) : Touch F a c :=
  h.trans k fun x hx hg => by
    rcases hg with hg | hg
    · exact hg
    · omega
theorem Touch.mono {F G : Nat → Prop} {a b : World} (h : Touch F a b) (hG : ∀ x, F x → G x) : Touch G a b :=
  ⟨h.os, h.tape, h.output, h.size, fun x hx hn => h.block x hx fun hf => hn (hG x hf)⟩
theorem Touch.ofBelow {F : Nat → Prop} {B : Nat} {a b : World} (h : Below B a b) (hF : ∀ x, B ≤ x → x < a.heap.size → F x) : Touch F a b :=
  ⟨h.os, h.tape, h.output, h.size, fun x hx hn => h.block x (by
    rcases Nat.lt_or_ge x B with h1 | h1
    · exact h1
    · exact absurd (hF x h1 hx) hn)⟩
theorem Touch.ofNew {F : Nat → Prop} {a b : World} (h : Below a.heap.size a b) : Touch F a b := Touch.ofBelow h fun x h1 h2 => by omega
theorem Touch.below {F : Nat → Prop} {B : Nat} {a b : World} (h : Touch F a b) (hB : B ≤ a.heap.size) (hF : ∀ x, F x → B ≤ x) : Below B a b :=
  ⟨h.os, h.tape, h.output, h.size, fun x hx => h.block x (by omega) fun hf => by have := hF x hf; omega⟩
theorem Touch.alloc {F : Nat → Prop} {a w : World} (h : Touch F a w) (o : Obj) : Touch F a (w.alloc o) :=
  h.trans' (F := F) (Touch.ofNew ((Below.refl _ _).alloc (Nat.le_refl _) o))
theorem Touch.drew {F : Nat → Prop} {a w : World} (h : Touch F a w) : Touch F a w.drew := ⟨h.os, h.tape, h.output, h.size, h.block⟩
theorem Touch.setCell {F : Nat → Prop} {a w : World} (h : Touch F a w) {x : Addr} (hx : F x.block) (u : Value) : Touch F a (w.setCell x u) :=
  h.trans' ⟨rfl, rfl, rfl, by simp, fun b _ hn => Below.heap_setCell _ _ _ _ (fun e => hn (e ▸ hx))⟩
theorem Touch.setCells {F : Nat → Prop} {a : World} {g : Nat} (hg : F g) : ∀ (vs : List Value) (o : Nat) {w : World}, Touch F a w → Touch F a (w.setCells g o vs)
  | [], _, _, h => h
  | v :: r, o, _, h => Touch.setCells hg r (o + 1) (h.setCell (x := ⟨g, o, none⟩) hg v)
theorem Touch.grown {F : Nat → Prop} {a w w' : World} {row : Option Nat} (h : Touch F a w) (hg : w.grownBy w' row) (hr : ∀ k, row = some k → F k) : Touch F a w' :=
  h.trans' ⟨hg.os, hg.tape, hg.output, hg.size, fun b hb hn => hg.block b hb fun e => hn (hr b e.symm)⟩
theorem grew_lt {F : Nat → Prop} {w w' : World} (h : ∀ b, F b → b < w.heap.size) (hs : w.heap.size ≤ w'.heap.size) : ∀ b, grew F w w' b → b < w'.heap.size := by
  rintro b (hb | hb)
  · have := h b hb; omega
  · exact hb.2

/-- which map tells the newest writes -/
def Newest (w : World) (mv : Value) (l : List (Nat × List UInt8)) : Prop :=
  (mv = .map none ∧ l = []) ∨ ∃ b, ∃ D : DataW Unit, mv = .map (some b) ∧ w.ownsMap Try.prog 3 (plainElem Try.prog 3) b l.length D ∧
    ∀ k : Nat, Maps.has D (.int .i64 k) = (newest l k).isSome ∧ ∀ i, newest l k = some i → D.atKey (.int .i64 k) (.lit (.int .i64 0)) = .lit (.int .i64 i)

theorem Newest.far {w w' : World} {mv : Value} {l : List (Nat × List UInt8)} (h : Newest w mv l) (hk : ∀ b, mv = .map (some b) → w'.heap[b]? = w.heap[b]?) : Newest w' mv l := by
  rcases h with h | ⟨b, D, rfl, ⟨es, clock, hb, rest⟩, hD⟩
  · exact .inl h
  · exact .inr ⟨b, D, rfl, ⟨es, clock, (hk b rfl).trans hb, rest⟩, hD⟩

/-- the blocks of a disk -/
structure Lay (w : World) (p gs sc : Nat) (lv mv : Value) (d : D) : Prop where
  head : w.heap[p]? = some (.cells #[.slice (some ⟨gs, 0, none⟩) d.sure.length sc, lv, mv, .int .i64 d.fuse] 84 (0, 0))
  sure : w.ownsRow 0 92 128 (.slice (some ⟨gs, 0, none⟩) d.sure.length sc) d.sure.length (flat d.sure)
  loose : w.ownsRow 0 94 129 lv d.loose.length (flatW d.loose)
  newest : Newest w mv d.loose

structure Rep (w : World) (p : Nat) (d : D) (F : Nat → Prop) : Prop where
  ok : d.ok
  lay : ∃ gs sc lv mv, Lay w p gs sc lv mv d ∧ F p ∧ F gs ∧ (∀ b, lv.ownBlock = some b → F b) ∧ (∀ b, mv = .map (some b) → F b)
  below : ∀ b, F b → b < w.heap.size

section
variable {w : World} {p gs sc : Nat} {lv mv : Value} {d : D} {F : Nat → Prop}
theorem Lay.cell0 (h : Lay w p gs sc lv mv d) : w.cell? ⟨p, 0, none⟩ = some (.slice (some ⟨gs, 0, none⟩) d.sure.length sc) := by rw [cell_of_row w p 0 _ _ _ h.head]; rfl
theorem Lay.cell1 (h : Lay w p gs sc lv mv d) : w.cell? ⟨p, 1, none⟩ = some lv := by rw [cell_of_row w p 1 _ _ _ h.head]; rfl
theorem Lay.cell2 (h : Lay w p gs sc lv mv d) : w.cell? ⟨p, 2, none⟩ = some mv := by rw [cell_of_row w p 2 _ _ _ h.head]; rfl
theorem Lay.cell3 (h : Lay w p gs sc lv mv d) : w.cell? ⟨p, 3, none⟩ = some (.int .i64 d.fuse) := by rw [cell_of_row w p 3 _ _ _ h.head]; rfl
theorem Lay.free (h : Lay w p gs sc lv mv d) (j : Nat) : w.frozen? ⟨p, j, none⟩ = false := frozen_of_row w p j _ _ h.head
theorem Lay.ne (h : Lay w p gs sc lv mv d) : p ≠ gs := by
  rintro rfl
  rcases h.sure.2 with ⟨h1, _⟩ | ⟨g, cap, cur, h1, _, h2, _⟩
  · cases h1
  · simp at h1
    obtain ⟨rfl, _⟩ := h1
    have := h.head.symm.trans h2
    simp at this
theorem Lay.ne1 (h : Lay w p gs sc lv mv d) {b : Nat} (hb : lv.ownBlock = some b) : b ≠ p ∧ b ≠ gs := by
  rcases h.loose.2 with ⟨rfl, _⟩ | ⟨g, cap, cur, rfl, _, h2, _⟩
  · simp [Value.ownBlock] at hb
  · simp [Value.ownBlock] at hb
    subst hb
    refine ⟨?_, ?_⟩
    · rintro rfl
      have := h.head.symm.trans h2
      simp at this
    · rintro rfl
      rcases h.sure.2 with ⟨h1, _⟩ | ⟨g', cap', cur', h1, _, h3, _⟩
      · cases h1
      · simp at h1
        obtain ⟨rfl, _⟩ := h1
        have := h3.symm.trans h2
        simp at this
theorem Lay.ne2 (h : Lay w p gs sc lv mv d) {b : Nat} (hb : mv = .map (some b)) : b ≠ p ∧ b ≠ gs ∧ lv.ownBlock ≠ some b := by
  rcases h.newest with ⟨rfl, _⟩ | ⟨b', D, rfl, ⟨es, clock, h2, _⟩, _⟩
  · cases hb
  · simp at hb
    subst hb
    refine ⟨?_, ?_, ?_⟩
    · rintro rfl
      have := h.head.symm.trans h2
      simp at this
    · rintro rfl
      rcases h.sure.2 with ⟨h1, _⟩ | ⟨g', cap', cur', h1, _, h3, _⟩
      · cases h1
      · simp at h1
        obtain ⟨rfl, _⟩ := h1
        have := h3.symm.trans h2
        simp at this
    · intro hb
      rcases h.loose.2 with ⟨rfl, _⟩ | ⟨g, cap, cur, rfl, _, h3, _⟩
      · simp [Value.ownBlock] at hb
      · simp [Value.ownBlock] at hb
        subst hb
        have := h3.symm.trans h2
        simp at this

theorem ownsRow_far {w' : World} {B : Nat} {e : TypeId} {size : Nat} {v : Value} {n : Nat} {xs : List Value} (h : w.ownsRow B e size v n xs) (hk : ∀ b, v.ownBlock = some b → w'.heap[b]? = w.heap[b]?) : w'.ownsRow B e size v n xs := by
  refine ⟨h.1, ?_⟩
  rcases h.2 with hn | ⟨g, cap, cur, rfl, hb, hg, rest⟩
  · exact .inl hn
  · exact .inr ⟨g, cap, cur, rfl, hb, (hk g rfl).trans hg, rest⟩
/-- where none of its blocks is touched a disk stays -/
theorem Rep.far {w' : World} (h : Rep w p d F) (hs : w.heap.size ≤ w'.heap.size) (hk : ∀ b, F b → w'.heap[b]? = w.heap[b]?) : Rep w' p d F := by
  obtain ⟨gs, sc, lv, mv, L, f1, f2, f3, f4⟩ := h.lay
  exact ⟨h.ok, ⟨gs, sc, lv, mv, ⟨(hk p f1).trans L.head, ownsRow_far L.sure (fun b hb => by simp [Value.ownBlock] at hb; subst hb; exact hk _ f2), ownsRow_far L.loose (fun b hb => hk b (f3 b hb)), L.newest.far (fun b hb => hk b (f4 b hb))⟩, f1, f2, f3, f4⟩,
    fun b hb => Nat.lt_of_lt_of_le (h.below b hb) hs⟩
theorem Rep.touch {w' : World} {G : Nat → Prop} (h : Rep w p d F) (t : Touch G w w') (hd : ∀ b, F b → ¬ G b) : Rep w' p d F :=
  h.far t.size fun b hb => t.block b (h.below b hb) (hd b hb)
theorem Rep.later {w' : World} (h : Rep w p d F) (t : Below w.heap.size w w') : Rep w' p d F :=
  h.far t.size fun b hb => t.block b (h.below b hb)
theorem Rep.mono {G : Nat → Prop} (h : Rep w p d F) (hG : ∀ b, F b → G b) (hb : ∀ b, G b → b < w.heap.size) : Rep w p d G := by
  obtain ⟨gs, sc, lv, mv, L, f1, f2, f3, f4⟩ := h.lay
  exact ⟨h.ok, ⟨gs, sc, lv, mv, L, hG _ f1, hG _ f2, fun b hb => hG _ (f3 b hb), fun b hb => hG _ (f4 b hb)⟩, hb⟩
theorem Rep.grown {w' : World} (h : Rep w' p d F) (w : World) : Rep w' p d (grew F w w') :=
  h.mono (fun b hb => .inl hb) (by rintro b (hb | hb); · exact h.below b hb
                                   · exact hb.2)
end

/-! ### a row of which a part is written -/
theorem heap_setCells (g : Nat) (e : TypeId) : ∀ (vs : List Value) (o : Nat) (w : World) (cur : Array Value), w.heap[g]? = some (.cells cur e (0, 0)) → o + vs.length ≤ cur.size →
    ∃ cur' : Array Value, (w.setCells g o vs).heap[g]? = some (.cells cur' e (0, 0)) ∧ cur'.size = cur.size ∧ cur'.toList = cur.toList.take o ++ vs ++ cur.toList.drop (o + vs.length)
  | [], o, w, cur, h, _ => ⟨cur, h, rfl, by simp⟩
  | v :: r, o, w, cur, h, hs => by
    have h1 := heap_setCell_same w g o cur e v h
    obtain ⟨cur', k1, k2, k3⟩ := heap_setCells g e r (o + 1) (w.setCell ⟨g, o, none⟩ v) _ h1 (by simp at hs ⊢; omega)
    refine ⟨cur', k1, by rw [k2]; simp, ?_⟩
    have ho : o < cur.toList.length := by simp at hs ⊢; omega
    have e1 : o + 1 + r.length = o + (v :: r).length := by simp; omega
    rw [k3, Array.toList_setIfInBounds, e1, List.drop_set_of_lt (by simp)]
    have e2 : (cur.toList.set o v).take (o + 1) = cur.toList.take o ++ [v] := by
      rw [List.take_succ_eq_append_getElem (by simpa using ho), List.take_set_of_le (Nat.le_refl _)]
      simp
    rw [e2]
    simp
theorem ownsRow_setCells {w : World} {B : Nat} {e : TypeId} {size g cap n : Nat} {xs : List Value} (h : w.ownsRow B e size (.slice (some ⟨g, 0, none⟩) n cap) n xs) (o : Nat) (vs : List Value) (ho : o + vs.length ≤ n * size) :
    (w.setCells g o vs).ownsRow B e size (.slice (some ⟨g, 0, none⟩) n cap) n (xs.take o ++ vs ++ xs.drop (o + vs.length)) := by
  obtain ⟨hx, h2⟩ := h
  refine ⟨by simp [hx]; omega, ?_⟩
  rcases h2 with ⟨h1, _⟩ | ⟨g', cap', cur, h1, hb, hg, hn, hm, hc, ht⟩
  · cases h1
  · simp at h1
    obtain ⟨rfl, rfl⟩ := h1
    have hle : n * size ≤ cur.size := by rw [hc]; exact Nat.mul_le_mul_right _ hn
    obtain ⟨cur', k1, k2, k3⟩ := heap_setCells g e vs o w cur hg (by omega)
    refine .inr ⟨g, cap, cur', rfl, hb, k1, hn, hm, k2.trans hc, ?_⟩
    rw [k3, ← ht]
    have a1 : (cur.toList.take (n * size)).take o = cur.toList.take o := by rw [List.take_take, Nat.min_eq_left (by omega)]
    have a2 : (cur.toList.take o).length = o := by simp; omega
    rw [a1, List.append_assoc, List.take_append, a2, List.take_append, List.drop_take, List.append_assoc]
    have a3 : (cur.toList.take o).take (n * size) = cur.toList.take o := by rw [List.take_take, Nat.min_eq_right (by omega)]
    have a4 : vs.take (n * size - o) = vs := List.take_of_length_le (by omega)
    have a5 : n * size - o - vs.length = n * size - (o + vs.length) := by omega
    rw [a3, a4, a5]
/-- the cells of a part -/
theorem ownsRow_range {w : World} {B : Nat} {e : TypeId} {size g cap n : Nat} {xs : List Value} (h : w.ownsRow B e size (.slice (some ⟨g, 0, none⟩) n cap) n xs) (o : Nat) (cs : List Value) (hc : ∀ j v, cs[j]? = some v → xs[o + j]? = some v) : w.rangeAt g o cs := fun j v hv => by
  have := h.cells (g := g) rfl (o + j) v (hc j v hv)
  rwa [Addr.add_mid, Nat.zero_add] at this
theorem ownsRow_there {w : World} {B : Nat} {e : TypeId} {size g cap n : Nat} {xs : List Value} (h : w.ownsRow B e size (.slice (some ⟨g, 0, none⟩) n cap) n xs) (o m : Nat) (ho : o + m ≤ n * size) : w.there g o m := fun j hj => by
  have hl : o + j < xs.length := by rw [h.1]; omega
  have := h.cells (g := g) rfl (o + j) _ (List.getElem?_eq_getElem hl)
  rw [Addr.add_mid, Nat.zero_add] at this
  refine ⟨by rw [this]; rfl, ?_⟩
  rcases h.2 with ⟨h1, _⟩ | ⟨g', cap', cur, h1, hb, hg, _⟩
  · cases h1
  · simp at h1
    obtain ⟨rfl, _⟩ := h1
    exact frozen_of_row w g _ cur e hg

end Go.Proofs.Ytgohpompgiljiaa.Disk
