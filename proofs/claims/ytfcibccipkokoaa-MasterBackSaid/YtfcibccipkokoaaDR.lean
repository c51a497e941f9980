/- A disk in memory: its blocks, what a call may touch. -/
import Derived.Test.YtfcibccipkokoaaProg
import Derived.Test.YtfcibccipkokoaaDM
import Derived.WalkKit
import Derived.WalkSpells
import Derived.WalkLawsBesides
import Derived.Lib.Hide
import Derived.Laws.Rows
import Derived.Laws.CopyOwn
import Derived.Laws.MakeOwn
import Derived.Laws.IdiomCopy
import Derived.Maps.OwnSet
import Derived.Maps.Views
import Derived.Deep.MidRow
import Derived.Deep.Upon
import Derived.Deep.Draws
namespace Go.Proofs.Ytfcibccipkokoaa.Disk
open Go.RowKit

/-- what may be touched: F, and what is new -/
structure Touch (F : Nat → Prop) (w w' : World) : Prop where
  os : w'.os = w.os
  tape : w'.tape = w.tape
  output : w'.output = w.output
  size : w.heap.size ≤ w'.heap.size
  block : ∀ b, b < w.heap.size → ¬ F b → w'.heap[b]? = w.heap[b]?
def grew (F : Nat → Prop) (w w' : World) (b : Nat) : Prop := F b ∨ (w.heap.size ≤ b ∧ b < w'.heap.size)

theorem Touch.refl (F : Nat → Prop) (w : World) : Touch F w w := ⟨rfl, rfl, rfl, Nat.le_refl _, fun _ _ _ => rfl⟩
theorem Touch.trans {F G : Nat → Prop} {a b c : World} (h : Touch F a b) (k : Touch G b c) (hG : ∀ x, x < a.heap.size → G x → F x) : Touch F a c :=
  ⟨k.os.trans h.os, k.tape.trans h.tape, k.output.trans h.output, Nat.le_trans h.size k.size, fun x hx hF => (k.block x (Nat.lt_of_lt_of_le hx h.size) (fun hg => hF (hG x hx hg))).trans (h.block x hx hF)⟩
theorem Touch.trans' {F : Nat → Prop} {a b c : World} (h : Touch F a b) (k : Touch F b c) : Touch F a c := h.trans k fun _ _ hx => hx
theorem Touch.step {F : Nat → Prop} {a b c : World} (h : Touch F a b) (k : Touch (grew F a b) b c) : Touch F a c :=
  h.trans k fun x hx hg => by
    rcases hg with hg | hg
    · exact hg
    · omega
theorem Touch.mono {F G : Nat → Prop} {a b : World} (h : Touch F a b) (hG : ∀ x, F x → G x) : Touch G a b :=
  ⟨h.os, h.tape, h.output, h.size, fun x hx hn => h.block x hx fun hf => hn (hG x hf)⟩
theorem Touch.ofBelow {F : Nat → Prop} {B : Nat} {a b : World} (h : Below B a b) (hF : ∀ x, B ≤ x → x < a.heap.size → F x) : Touch F a b :=
  ⟨h.os, h.tape, h.output, h.size, fun x hx hn => h.block x (by
    rcases Nat.lt_or_ge x B with h1 | h1
    · exact h1
    · exact absurd (hF x h1 hx) hn)⟩
theorem Touch.ofNew {F : Nat → Prop} {a b : World} (h : Below a.heap.size a b) : Touch F a b := Touch.ofBelow h fun x h1 h2 => by omega
theorem Touch.below {F : Nat → Prop} {B : Nat} {a b : World} (h : Touch F a b) (hB : B ≤ a.heap.size) (hF : ∀ x, F x → B ≤ x) : Below B a b :=
  ⟨h.os, h.tape, h.output, h.size, fun x hx => h.block x (by omega) fun hf => by have := hF x hf; omega⟩
theorem Touch.alloc {F : Nat → Prop} {a w : World} (h : Touch F a w) (o : Obj) : Touch F a (w.alloc o) :=
  h.trans' (F := F) (Touch.ofNew ((Below.refl _ _).alloc (Nat.le_refl _) o))
theorem Touch.drew {F : Nat → Prop} {a w : World} (h : Touch F a w) : Touch F a w.drew := ⟨h.os, h.tape, h.output, h.size, h.block⟩
theorem Touch.setCell {F : Nat → Prop} {a w : World} (h : Touch F a w) {x : Addr} (hx : F x.block) (u : Value) : Touch F a (w.setCell x u) :=
  h.trans' ⟨rfl, rfl, rfl, by simp, fun b _ hn => Below.heap_setCell _ _ _ _ (fun e => hn (e ▸ hx))⟩
theorem Touch.setCells {F : Nat → Prop} {a : World} {g : Nat} (hg : F g) : ∀ (vs : List Value) (o : Nat) {w : World}, Touch F a w → Touch F a (w.setCells g o vs)
  | [], _, _, h => h
  | v :: r, o, _, h => Touch.setCells hg r (o + 1) (h.setCell (x := ⟨g, o, none⟩) hg v)
theorem Touch.grown {F : Nat → Prop} {a w w' : World} {row : Option Nat} (h : Touch F a w) (hg : w.grownBy w' row) (hr : ∀ k, row = some k → F k) : Touch F a w' :=
  h.trans' ⟨hg.os, hg.tape, hg.output, hg.size, fun b hb hn => hg.block b hb fun e => hn (hr b e.symm)⟩
theorem grew_lt {F : Nat → Prop} {w w' : World} (h : ∀ b, F b → b < w.heap.size) (hs : w.heap.size ≤ w'.heap.size) : ∀ b, grew F w w' b → b < w'.heap.size := by
  rintro b (hb | hb)
  · have := h b hb; omega
  · exact hb.2

/-- which map tells the newest writes -/
def Newest (w : World) (mv : Value) (l : List (Nat × List UInt8)) : Prop :=
  (mv = .map none ∧ l = []) ∨ ∃ b, ∃ D : DataW Unit, mv = .map (some b) ∧ w.ownsMap Try.prog 3 (plainElem Try.prog 3) b l.length D ∧
    ∀ k : Nat, Maps.has D (.int .i64 k) = (newest l k).isSome ∧ ∀ i, newest l k = some i → D.atKey (.int .i64 k) (.lit (.int .i64 0)) = .lit (.int .i64 i)

theorem Newest.far {w w' : World} {mv : Value} {l : List (Nat × List UInt8)} (h : Newest w mv l) (hk : ∀ b, mv = .map (some b) → w'.heap[b]? = w.heap[b]?) : Newest w' mv l := by
  rcases h with h | ⟨b, D, rfl, ⟨es, clock, hb, rest⟩, hD⟩
  · exact .inl h
  · exact .inr ⟨b, D, rfl, ⟨es, clock, (hk b rfl).trans hb, rest⟩, hD⟩

/-- the blocks of a disk -/
structure Lay (w : World) (p gs sc : Nat) (lv mv : Value) (d : D) : Prop where
  head : w.heap[p]? = some (.cells #[.slice (some ⟨gs, 0, none⟩) d.sure.length sc, lv, mv, .int .i64 d.fuse] 90 (0, 0))
  sure : w.ownsRow 0 94 128 (.slice (some ⟨gs, 0, none⟩) d.sure.length sc) d.sure.length (flat d.sure)
  loose : w.ownsRow 0 96 129 lv d.loose.length (flatW d.loose)
  newest : Newest w mv d.loose

structure Rep (w : World) (p : Nat) (d : D) (F : Nat → Prop) : Prop where
  ok : d.ok
  lay : ∃ gs sc lv mv, Lay w p gs sc lv mv d ∧ F p ∧ F gs ∧ (∀ b, lv.ownBlock = some b → F b) ∧ (∀ b, mv = .map (some b) → F b)
  below : ∀ b, F b → b < w.heap.size

section
variable {w : World} {p gs sc : Nat} {lv mv : Value} {d : D} {F : Nat → Prop}
theorem Lay.cell0 (h : Lay w p gs sc lv mv d) : w.cell? ⟨p, 0, none⟩ = some (.slice (some ⟨gs, 0, none⟩) d.sure.length sc) := by rw [cell_of_row w p 0 _ _ _ h.head]; rfl
theorem Lay.cell1 (h : Lay w p gs sc lv mv d) : w.cell? ⟨p, 1, none⟩ = some lv := by rw [cell_of_row w p 1 _ _ _ h.head]; rfl
theorem Lay.cell2 (h : Lay w p gs sc lv mv d) : w.cell? ⟨p, 2, none⟩ = some mv := by rw [cell_of_row w p 2 _ _ _ h.head]; rfl
theorem Lay.cell3 (h : Lay w p gs sc lv mv d) : w.cell? ⟨p, 3, none⟩ = some (.int .i64 d.fuse) := by rw [cell_of_row w p 3 _ _ _ h.head]; rfl
theorem Lay.free (h : Lay w p gs sc lv mv d) (j : Nat) : w.frozen? ⟨p, j, none⟩ = false := frozen_of_row w p j _ _ h.head
theorem Lay.ne (h : Lay w p gs sc lv mv d) : p ≠ gs := by
  rintro rfl
  rcases h.sure.2 with ⟨h1, _⟩ | ⟨g, cap, cur, h1, _, h2, _⟩
  · cases h1
  · simp at h1
    obtain ⟨rfl, _⟩ := h1
    have := h.head.symm.trans h2
    simp at this
theorem Lay.ne1 (h : Lay w p gs sc lv mv d) {b : Nat} (hb : lv.ownBlock = some b) : b ≠ p ∧ b ≠ gs := by
  rcases h.loose.2 with ⟨rfl, _⟩ | ⟨g, cap, cur, rfl, _, h2, _⟩
  · simp [Value.ownBlock] at hb
  · simp [Value.ownBlock] at hb
    subst hb
    refine ⟨?_, ?_⟩
    · rintro rfl
      have := h.head.symm.trans h2
      simp at this
    · rintro rfl
      rcases h.sure.2 with ⟨h1, _⟩ | ⟨g', cap', cur', h1, _, h3, _⟩
      · cases h1
      · simp at h1
        obtain ⟨rfl, _⟩ := h1
        have := h3.symm.trans h2
        simp at this
theorem Lay.ne2 (h : Lay w p gs sc lv mv d) {b : Nat} (hb : mv = .map (some b)) : b ≠ p ∧ b ≠ gs ∧ lv.ownBlock ≠ some b := by
  rcases h.newest with ⟨rfl, _⟩ | ⟨b', D, rfl, ⟨es, clock, h2, _⟩, _⟩
  · cases hb
  · simp at hb
    subst hb
    refine ⟨?_, ?_, ?_⟩
    · rintro rfl
      have := h.head.symm.trans h2
      simp at this
    · rintro rfl
      rcases h.sure.2 with ⟨h1, _⟩ | ⟨g', cap', cur', h1, _, h3, _⟩
      · cases h1
      · simp at h1
        obtain ⟨rfl, _⟩ := h1
        have := h3.symm.trans h2
        simp at this
    · intro hb
      rcases h.loose.2 with ⟨rfl, _⟩ | ⟨g, cap, cur, rfl, _, h3, _⟩
      · simp [Value.ownBlock] at hb
      · simp [Value.ownBlock] at hb
        subst hb
        have := h3.symm.trans h2
        simp at this

theorem ownsRow_far {w' : World} {B : Nat} {e : TypeId} {size : Nat} {v : Value} {n : Nat} {xs : List Value} (h : w.ownsRow B e size v n xs) (hk : ∀ b, v.ownBlock = some b → w'.heap[b]? = w.heap[b]?) : w'.ownsRow B e size v n xs := by
  refine ⟨h.1, ?_⟩
  rcases h.2 with hn | ⟨g, cap, cur, rfl, hb, hg, rest⟩
  · exact .inl hn
  · exact .inr ⟨g, cap, cur, rfl, hb, (hk g rfl).trans hg, rest⟩
/-- where none of its blocks is touched a disk stays -/
theorem Rep.far {w' : World} (h : Rep w p d F) (hs : w.heap.size ≤ w'.heap.size) (hk : ∀ b, F b → w'.heap[b]? = w.heap[b]?) : Rep w' p d F := by
  obtain ⟨gs, sc, lv, mv, L, f1, f2, f3, f4⟩ := h.lay
  exact ⟨h.ok, ⟨gs, sc, lv, mv, ⟨(hk p f1).trans L.head, ownsRow_far L.sure (fun b hb => by simp [Value.ownBlock] at hb; subst hb; exact hk _ f2), ownsRow_far L.loose (fun b hb => hk b (f3 b hb)), L.newest.far (fun b hb => hk b (f4 b hb))⟩, f1, f2, f3, f4⟩,
    fun b hb => Nat.lt_of_lt_of_le (h.below b hb) hs⟩
theorem Rep.touch {w' : World} {G : Nat → Prop} (h : Rep w p d F) (t : Touch G w w') (hd : ∀ b, F b → ¬ G b) : Rep w' p d F :=
  h.far t.size fun b hb => t.block b (h.below b hb) (hd b hb)
theorem Rep.later {w' : World} (h : Rep w p d F) (t : Below w.heap.size w w') : Rep w' p d F :=
  h.far t.size fun b hb => t.block b (h.below b hb)
theorem Rep.mono {G : Nat → Prop} (h : Rep w p d F) (hG : ∀ b, F b → G b) (hb : ∀ b, G b → b < w.heap.size) : Rep w p d G := by
  obtain ⟨gs, sc, lv, mv, L, f1, f2, f3, f4⟩ := h.lay
  exact ⟨h.ok, ⟨gs, sc, lv, mv, L, hG _ f1, hG _ f2, fun b hb => hG _ (f3 b hb), fun b hb => hG _ (f4 b hb)⟩, hb⟩
theorem Rep.grown {w' : World} (h : Rep w' p d F) (w : World) : Rep w' p d (grew F w w') :=
  h.mono (fun b hb => .inl hb) (by rintro b (hb | hb); · exact h.below b hb
                                   · exact hb.2)
end

/-! ### a row of which a part is written -/
theorem heap_setCells (g : Nat) (e : TypeId) : ∀ (vs : List Value) (o : Nat) (w : World) (cur : Array Value), w.heap[g]? = some (.cells cur e (0, 0)) → o + vs.length ≤ cur.size →
    ∃ cur' : Array Value, (w.setCells g o vs).heap[g]? = some (.cells cur' e (0, 0)) ∧ cur'.size = cur.size ∧ cur'.toList = cur.toList.take o ++ vs ++ cur.toList.drop (o + vs.length)
  | [], o, w, cur, h, _ => ⟨cur, h, rfl, by simp⟩
  | v :: r, o, w, cur, h, hs => by
    have h1 := heap_setCell_same w g o cur e v h
    obtain ⟨cur', k1, k2, k3⟩ := heap_setCells g e r (o + 1) (w.setCell ⟨g, o, none⟩ v) _ h1 (by simp at hs ⊢; omega)
    refine ⟨cur', k1, by rw [k2]; simp, ?_⟩
    have ho : o < cur.toList.length := by simp at hs ⊢; omega
    have e1 : o + 1 + r.length = o + (v :: r).length := by simp; omega
    rw [k3, Array.toList_setIfInBounds, e1, List.drop_set_of_lt (by simp)]
    have e2 : (cur.toList.set o v).take (o + 1) = cur.toList.take o ++ [v] := by
      rw [List.take_succ_eq_append_getElem (by simpa using ho), List.take_set_of_le (Nat.le_refl _)]
      simp
    rw [e2]
    simp
theorem ownsRow_setCells {w : World} {B : Nat} {e : TypeId} {size g cap n : Nat} {xs : List Value} (h : w.ownsRow B e size (.slice (some ⟨g, 0, none⟩) n cap) n xs) (o : Nat) (vs : List Value) (ho : o + vs.length ≤ n * size) :
    (w.setCells g o vs).ownsRow B e size (.slice (some ⟨g, 0, none⟩) n cap) n (xs.take o ++ vs ++ xs.drop (o + vs.length)) := by
  obtain ⟨hx, h2⟩ := h
  refine ⟨by simp [hx]; omega, ?_⟩
  rcases h2 with ⟨h1, _⟩ | ⟨g', cap', cur, h1, hb, hg, hn, hm, hc, ht⟩
  · cases h1
  · simp at h1
    obtain ⟨rfl, rfl⟩ := h1
    have hle : n * size ≤ cur.size := by rw [hc]; exact Nat.mul_le_mul_right _ hn
    obtain ⟨cur', k1, k2, k3⟩ := heap_setCells g e vs o w cur hg (by omega)
    refine .inr ⟨g, cap, cur', rfl, hb, k1, hn, hm, k2.trans hc, ?_⟩
    rw [k3, ← ht]
    have a1 : (cur.toList.take (n * size)).take o = cur.toList.take o := by rw [List.take_take, Nat.min_eq_left (by omega)]
    have a2 : (cur.toList.take o).length = o := by simp; omega
    rw [a1, List.append_assoc, List.take_append, a2, List.take_append, List.drop_take, List.append_assoc]
    have a3 : (cur.toList.take o).take (n * size) = cur.toList.take o := by rw [List.take_take, Nat.min_eq_right (by omega)]
    have a4 : vs.take (n * size - o) = vs := List.take_of_length_le (by omega)
    have a5 : n * size - o - vs.length = n * size - (o + vs.length) := by omega
    rw [a3, a4, a5]
/-- the cells of a part -/
theorem ownsRow_range {w : World} {B : Nat} {e : TypeId} {size g cap n : Nat} {xs : List Value} (h : w.ownsRow B e size (.slice (some ⟨g, 0, none⟩) n cap) n xs) (o : Nat) (cs : List Value) (hc : ∀ j v, cs[j]? = some v → xs[o + j]? = some v) : w.rangeAt g o cs := fun j v hv => by
  have := h.cells (g := g) rfl (o + j) v (hc j v hv)
  rwa [Addr.add_mid, Nat.zero_add] at this
theorem ownsRow_there {w : World} {B : Nat} {e : TypeId} {size g cap n : Nat} {xs : List Value} (h : w.ownsRow B e size (.slice (some ⟨g, 0, none⟩) n cap) n xs) (o m : Nat) (ho : o + m ≤ n * size) : w.there g o m := fun j hj => by
  have hl : o + j < xs.length := by rw [h.1]; omega
  have := h.cells (g := g) rfl (o + j) _ (List.getElem?_eq_getElem hl)
  rw [Addr.add_mid, Nat.zero_add] at this
  refine ⟨by rw [this]; rfl, ?_⟩
  rcases h.2 with ⟨h1, _⟩ | ⟨g', cap', cur, h1, hb, hg, _⟩
  · cases h1
  · simp at h1
    obtain ⟨rfl, _⟩ := h1
    exact frozen_of_row w g _ cur e hg

end Go.Proofs.Ytfcibccipkokoaa.Disk
