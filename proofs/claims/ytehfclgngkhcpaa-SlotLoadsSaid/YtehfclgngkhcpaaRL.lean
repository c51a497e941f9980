/- Memory: the document's area. -/
import Derived.Test.YtehfclgngkhcpaaSTX
namespace Go.Proofs.Ytehfclgngkhcpaa.Slot
open Go.RowKit

/-! ### places -/
def plC (x : Nat × Nat) : List Value := [.int .i64 (x.1 : Int), .int .i64 (x.2 : Int)]
def dirC (l : List (Nat × Nat)) : List Value := l.flatMap plC
theorem dirC_cons (x : Nat × Nat) (l : List (Nat × Nat)) : dirC (x :: l) = plC x ++ dirC l := by simp [dirC]
theorem dirC_app (l m : List (Nat × Nat)) : dirC (l ++ m) = dirC l ++ dirC m := by simp [dirC]
theorem dirC_len (l : List (Nat × Nat)) : (dirC l).length = l.length * 2 := by
  induction l with
  | nil => rfl
  | cons x l ih => rw [dirC_cons, List.length_append, ih]; simp [plC]; omega
theorem dirC_take (l : List (Nat × Nat)) (k : Nat) (hk : k ≤ l.length) : (dirC l).take (k * 2) = dirC (l.take k) := by
  have h := dirC_app (l.take k) (l.drop k)
  rw [List.take_append_drop] at h
  rw [h]
  have hl : (dirC (l.take k)).length = k * 2 := by rw [dirC_len, List.length_take, Nat.min_eq_left hk]
  rw [← hl]
  exact List.take_left
theorem dirC_drop (l : List (Nat × Nat)) (k : Nat) (hk : k ≤ l.length) : (dirC l).drop (k * 2) = dirC (l.drop k) := by
  have h := dirC_app (l.take k) (l.drop k)
  rw [List.take_append_drop] at h
  rw [h]
  have hl : (dirC (l.take k)).length = k * 2 := by rw [dirC_len, List.length_take, Nat.min_eq_left hk]
  rw [← hl]
  exact List.drop_left
theorem dirC_at {l : List (Nat × Nat)} {k : Nat} (hk : k < l.length) : (dirC l)[k * 2]? = some (.int .i64 ((l.getD k (0, 0)).1 : Int)) ∧ (dirC l)[k * 2 + 1]? = some (.int .i64 ((l.getD k (0, 0)).2 : Int)) := by
  have h1 : ((dirC l).drop (k * 2)) = plC (l.getD k (0, 0)) ++ dirC (l.drop (k + 1)) := by
    rw [dirC_drop l k (by omega), List.drop_eq_getElem_cons hk, dirC_cons, List.getD_eq_getElem?_getD, List.getElem?_eq_getElem hk]
    rfl
  have h2 : ∀ j, (dirC l)[k * 2 + j]? = ((dirC l).drop (k * 2))[j]? := fun j => by rw [List.getElem?_drop]
  refine ⟨?_, ?_⟩
  · have := h2 0
    rw [Nat.add_zero, h1] at this
    rw [this]; rfl
  · rw [h2 1, h1]; rfl
theorem dirC_set (l : List (Nat × Nat)) (k : Nat) (hk : k < l.length) (x : Nat × Nat) : (dirC l).take (k * 2) ++ plC x ++ (dirC l).drop (k * 2 + 2) = dirC (l.set k x) := by
  rw [dirC_take l k (by omega), show k * 2 + 2 = (k + 1) * 2 by omega, dirC_drop l (k + 1) (by omega), List.set_eq_take_append_cons_drop, if_pos hk, dirC_app, dirC_cons, List.append_assoc]
theorem dirC_one (l : List (Nat × Nat)) : ∀ u ∈ dirC l, u.oneCell' = true := by
  intro u hu
  unfold dirC at hu
  obtain ⟨x, _, hx⟩ := List.mem_flatMap.1 hu
  simp [plC] at hx
  rcases hx with rfl | rfl <;> rfl

theorem ownsRow_far {w w' : World} {B : Nat} {e : TypeId} {size : Nat} {v : Value} {n : Nat} {xs : List Value} (h : w.ownsRow B e size v n xs) (hk : ∀ b, v.ownBlock = some b → w'.heap[b]? = w.heap[b]?) : w'.ownsRow B e size v n xs := by
  refine ⟨h.1, ?_⟩
  rcases h.2 with hn | ⟨g, cap, cur, rfl, hb, hg, rest⟩
  · exact .inl hn
  · exact .inr ⟨g, cap, cur, rfl, hb, (hk g rfl).trans hg, rest⟩

theorem set_two {T : Type} (l : List T) (k : Nat) (h : k + 1 < l.length) (x y : T) : (l.set k x).set (k + 1) y = l.take k ++ [x, y] ++ l.drop (k + 2) := by
  apply List.ext_getElem?
  intro j
  have ht : (l.take k).length = k := by rw [List.length_take]; omega
  rw [List.getElem?_set, List.getElem?_set, List.append_assoc]
  by_cases h1 : j < k
  · rw [if_neg (by omega), if_neg (by omega), List.getElem?_append_left (by omega), List.getElem?_take, if_pos h1]
  · rw [List.getElem?_append_right (by omega), ht]
    by_cases h2 : j = k
    · subst h2
      rw [if_neg (by omega), if_pos rfl, if_pos (by omega), Nat.sub_self]
      rfl
    · by_cases h3 : j = k + 1
      · subst h3
        rw [if_pos rfl, if_pos (by rw [List.length_set]; exact h), show k + 1 - k = 1 by omega]
        rfl
      · rw [if_neg (by omega), if_neg (by omega), List.getElem?_append_right (by simp; omega), List.getElem?_drop]
        congr 1
        simp
        omega
/-- v is a slice of these places -/
def Dl (w : World) (v : Value) (l : List (Nat × Nat)) : Prop := w.ownsRow 0 110 2 v l.length (dirC l)
theorem Dl.form {w : World} {v : Value} {l : List (Nat × Nat)} (h : Dl w v l) : (v = .slice none 0 0 ∧ l = []) ∨ ∃ g cap cur, v = .slice (some ⟨g, 0, none⟩) l.length cap ∧ w.heap[g]? = some (.cells cur 110 (0, 0)) ∧ l.length ≤ cap ∧ cur.toList.take (l.length * 2) = dirC l := by
  rcases h.2 with ⟨h1, h2⟩ | ⟨g, cap, cur, h1, h2, h3, h4, h5, h6, h7⟩
  · exact .inl ⟨h1, List.eq_nil_of_length_eq_zero h2⟩
  · exact .inr ⟨g, cap, cur, h1, h3, h4, h7⟩
theorem Dl.shape {w : World} {v : Value} {l : List (Nat × Nat)} (h : Dl w v l) : ∃ ad cap, v = .slice ad l.length cap := by
  rcases h.form with ⟨rfl, rfl⟩ | ⟨g, cap, cur, h1, _⟩
  · exact ⟨none, 0, rfl⟩
  · exact ⟨_, cap, h1⟩
theorem Dl.at {w : World} {ad : Option Addr} {cap : Nat} {l : List (Nat × Nat)} (h : Dl w (.slice ad l.length cap) l) {k : Nat} (hk : k < l.length) :
    ∃ g, ad = some ⟨g, 0, none⟩ ∧ w.cell? ⟨g, k * 2, none⟩ = some (.int .i64 ((l.getD k (0, 0)).1 : Int)) ∧ w.cell? ⟨g, k * 2 + 1, none⟩ = some (.int .i64 ((l.getD k (0, 0)).2 : Int)) ∧ w.frozen? ⟨g, k * 2, none⟩ = false ∧ w.frozen? ⟨g, k * 2 + 1, none⟩ = false := by
  rcases h.form with ⟨h1, rfl⟩ | ⟨g, cap', cur, h1, h3, h4, h5⟩
  · simp at hk
  · simp only [Value.slice.injEq] at h1
    obtain ⟨rfl, _, rfl⟩ := h1
    obtain ⟨c1, c2⟩ := dirC_at hk
    rw [← h5, List.getElem?_take, if_pos (by omega)] at c1 c2
    refine ⟨g, rfl, ?_, ?_, frozen_of_row w g _ _ _ h3, frozen_of_row w g _ _ _ h3⟩
    · rw [cell_of_row w g _ cur _ _ h3, ← Array.getElem?_toList]; exact c1
    · rw [cell_of_row w g _ cur _ _ h3, ← Array.getElem?_toList]; exact c2
theorem Dl.set {w : World} {g cap : Nat} {l : List (Nat × Nat)} (h : Dl w (.slice (some ⟨g, 0, none⟩) l.length cap) l) {k : Nat} (hk : k < l.length) (x : Nat × Nat) :
    Dl ((w.setCell ⟨g, k * 2, none⟩ (.int .i64 (x.1 : Int))).setCell ⟨g, k * 2 + 1, none⟩ (.int .i64 (x.2 : Int))) (.slice (some ⟨g, 0, none⟩) l.length cap) (l.set k x) := by
  have h1 := (h.stored (k * 2) (.int .i64 (x.1 : Int))).1
  have h2 := (h1.stored (k * 2 + 1) (.int .i64 (x.2 : Int))).1
  unfold Dl
  rw [List.length_set]
  have e : ((dirC l).set (k * 2) (.int .i64 (x.1 : Int))).set (k * 2 + 1) (.int .i64 (x.2 : Int)) = dirC (l.set k x) := by
    rw [← dirC_set l k hk x]
    exact set_two _ _ (by rw [dirC_len]; omega) _ _
  rw [← e]
  exact h2

/-! ### the area -/
structure RLay (w : World) (q h cB : Nat) (v : Value) (a : A) : Prop where
  head : w.heap[q]? = some (.cells #[.slice (some ⟨h, 0, none⟩) a.n cB, .int .i64 (a.low : Int), v] 104 (0, 0))
  row : Row w h a.cells
  cap : a.n ≤ cB
  dl : Dl w v a.dir
structure Rf (w : World) (q : Nat) (a : A) (F : Nat → Prop) : Prop where
  lay : ∃ h cB v, RLay w q h cB v a ∧ F q ∧ F h ∧ ∀ b, v.ownBlock = some b → F b
  below : ∀ b, F b → b < w.heap.size

section
variable {w : World} {q h cB : Nat} {v : Value} {a : A} {F : Nat → Prop}
theorem RLay.cell0 (L : RLay w q h cB v a) : w.cell? ⟨q, 0, none⟩ = some (.slice (some ⟨h, 0, none⟩) a.n cB) := by rw [cell_of_row w q 0 _ _ _ L.head]; rfl
theorem RLay.cell1 (L : RLay w q h cB v a) : w.cell? ⟨q, 1, none⟩ = some (.int .i64 (a.low : Int)) := by rw [cell_of_row w q 1 _ _ _ L.head]; rfl
theorem RLay.cell2 (L : RLay w q h cB v a) : w.cell? ⟨q, 2, none⟩ = some v := by rw [cell_of_row w q 2 _ _ _ L.head]; rfl
theorem RLay.free (L : RLay w q h cB v a) (j : Nat) : w.frozen? ⟨q, j, none⟩ = false := frozen_of_row w q j _ _ L.head
theorem RLay.ne (L : RLay w q h cB v a) : q ≠ h := by
  rintro rfl
  obtain ⟨cur, m, h1, _⟩ := L.row
  have := L.head.symm.trans h1
  simp at this
theorem RLay.ne1 (L : RLay w q h cB v a) {b : Nat} (hb : v.ownBlock = some b) : b ≠ q ∧ b ≠ h := by
  rcases L.dl.form with ⟨rfl, _⟩ | ⟨g, cap, cur, rfl, h2, _⟩
  · simp [Value.ownBlock] at hb
  · simp [Value.ownBlock] at hb
    subst hb
    refine ⟨?_, ?_⟩
    · rintro rfl
      have := L.head.symm.trans h2
      simp at this
    · rintro rfl
      obtain ⟨cur', m, h1, _⟩ := L.row
      have := h1.symm.trans h2
      simp at this
theorem Rf.far {w' : World} (H : Rf w q a F) (hs : w.heap.size ≤ w'.heap.size) (hk : ∀ b, F b → w'.heap[b]? = w.heap[b]?) : Rf w' q a F := by
  obtain ⟨h, cB, v, L, f1, f2, f3⟩ := H.lay
  exact ⟨⟨h, cB, v, ⟨(hk q f1).trans L.head, L.row.far (hk h f2), L.cap, ownsRow_far L.dl (fun b hb => hk b (f3 b hb))⟩, f1, f2, f3⟩, fun b hb => Nat.lt_of_lt_of_le (H.below b hb) hs⟩
theorem Rf.later {w' : World} (H : Rf w q a F) (t : Below w.heap.size w w') : Rf w' q a F := H.far t.size fun b hb => t.block b (H.below b hb)
theorem Rf.drew' (H : Rf w q a F) : Rf w.drew q a F := H.later ((Below.refl _ _).drew)
theorem Rf.touch {w' : World} {G : Nat → Prop} (H : Rf w q a F) (t : Touch G w w') (hd : ∀ b, F b → ¬ G b) : Rf w' q a F := H.far t.size fun b hb => t.block b (H.below b hb) (hd b hb)
theorem Rf.mono {G : Nat → Prop} (H : Rf w q a F) (hG : ∀ b, F b → G b) (hb : ∀ b, G b → b < w.heap.size) : Rf w q a G := by
  obtain ⟨h, cB, v, L, f1, f2, f3⟩ := H.lay
  exact ⟨⟨h, cB, v, L, hG _ f1, hG _ f2, fun b hb => hG _ (f3 b hb)⟩, hb⟩
theorem Rf.grown {w0 : World} (H : Rf w q a F) : Rf w q a (grew F w0 w) :=
  H.mono (fun b hb => .inl hb) (by rintro b (hb | hb); · exact H.below b hb
                                   · exact hb.2)
/-- the low place is another one -/
theorem Rf.setLow (H : Rf w q a F) (n : Nat) : Rf (w.setCell ⟨q, 1, none⟩ (.int .i64 (n : Int))) q ⟨a.cells, n, a.dir⟩ F ∧ Touch F w (w.setCell ⟨q, 1, none⟩ (.int .i64 (n : Int))) := by
  obtain ⟨h, cB, v, L, f1, f2, f3⟩ := H.lay
  refine ⟨⟨⟨h, cB, v, ⟨?_, ?_, L.cap, ?_⟩, f1, f2, f3⟩, fun b hb => by simpa using H.below b hb⟩, (Touch.refl F w).setCell (x := ⟨q, 1, none⟩) f1 _⟩
  · rw [heap_setCell_same w q 1 _ _ _ L.head]; rfl
  · exact L.row.far (heap_setCell_other _ _ _ _ (by exact fun e => L.ne e.symm))
  · exact ownsRow_far L.dl fun b hb => heap_setCell_other _ _ _ _ (by exact (L.ne1 hb).1)
/-- bytes are others -/
theorem Rf.put (H : Rf w q a F) {h cB : Nat} (h0 : w.cell? ⟨q, 0, none⟩ = some (.slice (some ⟨h, 0, none⟩) a.n cB)) {k : Nat} {t : List UInt8} (hk : k + t.length ≤ a.n) :
    Rf (w.setCells h k (Lib.byteCells t)) q ⟨putL a.cells k t, a.low, a.dir⟩ F ∧ Touch F w (w.setCells h k (Lib.byteCells t)) := by
  obtain ⟨h', cB', v, L, f1, f2, f3⟩ := H.lay
  have h1 := L.cell0
  rw [h0] at h1
  simp at h1
  obtain ⟨rfl, rfl⟩ := h1
  have ht := Touch.setCells (F := F) f2 (Lib.byteCells t) k (Touch.refl _ w)
  have hl : (putL a.cells k t).length = a.n := putL_len hk
  refine ⟨⟨⟨h, cB, v, ⟨?_, L.row.put hk, by show (putL a.cells k t).length ≤ _; rw [hl]; exact L.cap, ?_⟩, f1, f2, f3⟩, fun b hb => Nat.lt_of_lt_of_le (H.below b hb) ht.size⟩, ht⟩
  · rw [World.heap_setCells_other w h _ _ (H.below q f1) L.ne]
    show _ = some (Obj.cells #[.slice _ (putL a.cells k t).length _, _, _] _ _)
    rw [hl]; exact L.head
  · exact ownsRow_far L.dl fun b hb => World.heap_setCells_other w h _ _ (H.below b (f3 b hb)) (L.ne1 hb).2
/-- one byte is another one -/
theorem Rf.byte (H : Rf w q a F) {h cB : Nat} (h0 : w.cell? ⟨q, 0, none⟩ = some (.slice (some ⟨h, 0, none⟩) a.n cB)) {k : Nat} (hk : k < a.n) (x : UInt8) :
    w.cell? ⟨h, k, none⟩ = some (.int .u8 ((a.cells.getD k 0).toNat : Int)) ∧ w.frozen? ⟨h, k, none⟩ = false ∧ Rf (w.setCell ⟨h, k, none⟩ (.int .u8 (x.toNat : Int))) q ⟨putL a.cells k [x], a.low, a.dir⟩ F ∧ Touch F w (w.setCell ⟨h, k, none⟩ (.int .u8 (x.toNat : Int))) ∧
      (w.setCell ⟨h, k, none⟩ (.int .u8 (x.toNat : Int))).cell? ⟨q, 0, none⟩ = some (.slice (some ⟨h, 0, none⟩) a.n cB) := by
  have P := H.put h0 (k := k) (t := [x]) (by simp; omega)
  obtain ⟨h', cB', v, L, f1, f2, f3⟩ := H.lay
  have h1 := L.cell0
  rw [h0] at h1
  simp at h1
  obtain ⟨rfl, rfl⟩ := h1
  refine ⟨L.row.cell hk, L.row.free hk, P.1, P.2, ?_⟩
  rw [World.cell?_setCell_other _ _ _ _ (by simp; intro e; exact absurd e.symm L.ne)]
  exact h0
/-- a place is another one -/
theorem Rf.setDir (H : Rf w q a F) {ad : Option Addr} {cap : Nat} (h2 : w.cell? ⟨q, 2, none⟩ = some (.slice ad a.dir.length cap)) {k : Nat} (hk : k < a.dir.length) (x : Nat × Nat) :
    ∃ g, ad = some ⟨g, 0, none⟩ ∧ Rf ((w.setCell ⟨g, k * 2, none⟩ (.int .i64 (x.1 : Int))).setCell ⟨g, k * 2 + 1, none⟩ (.int .i64 (x.2 : Int))) q ⟨a.cells, a.low, a.dir.set k x⟩ F ∧ Touch F w ((w.setCell ⟨g, k * 2, none⟩ (.int .i64 (x.1 : Int))).setCell ⟨g, k * 2 + 1, none⟩ (.int .i64 (x.2 : Int))) := by
  obtain ⟨h, cB, v, L, f1, f2, f3⟩ := H.lay
  have h3 := L.cell2
  rw [h2] at h3
  simp only [Option.some.injEq] at h3
  subst h3
  obtain ⟨g, rfl, _⟩ := L.dl.at hk
  have hg := f3 g rfl
  have hn := L.ne1 (b := g) rfl
  have hds := L.dl.set hk x
  refine ⟨g, rfl, ⟨⟨h, cB, _, ⟨?_, ?_, L.cap, by show Dl _ _ (a.dir.set k x); exact hds⟩, f1, f2, f3⟩, fun b hb => by simpa using H.below b hb⟩, ((Touch.refl F w).setCell (x := ⟨g, k * 2, none⟩) hg _).setCell (x := ⟨g, k * 2 + 1, none⟩) hg _⟩
  · rw [heap_setCell_other _ _ _ _ (by exact fun e => hn.1 e.symm), heap_setCell_other _ _ _ _ (by exact fun e => hn.1 e.symm)]
    exact L.head
  · exact (L.row.far (heap_setCell_other _ _ _ _ (by exact fun e => hn.2 e.symm))).far (heap_setCell_other _ _ _ _ (by exact fun e => hn.2 e.symm))
/-- another directory -/
theorem Rf.newDir (H : Rf w q a F) {v' : Value} {l : List (Nat × Nat)} (hv : Dl w v' l) (hF : ∀ b, v'.ownBlock = some b → F b) :
    Rf (w.setCell ⟨q, 2, none⟩ v') q ⟨a.cells, a.low, l⟩ F ∧ Touch F w (w.setCell ⟨q, 2, none⟩ v') := by
  obtain ⟨h, cB, v, L, f1, f2, f3⟩ := H.lay
  have hn : ∀ b, v'.ownBlock = some b → b ≠ q := by
    intro b hb
    rcases hv.form with ⟨rfl, _⟩ | ⟨g, cap, cur, rfl, h2, _⟩
    · simp [Value.ownBlock] at hb
    · simp [Value.ownBlock] at hb
      subst hb
      rintro rfl
      have := L.head.symm.trans h2
      simp at this
  refine ⟨⟨⟨h, cB, v', ⟨?_, ?_, L.cap, ?_⟩, f1, f2, hF⟩, fun b hb => by simpa using H.below b hb⟩, (Touch.refl F w).setCell (x := ⟨q, 2, none⟩) f1 _⟩
  · rw [heap_setCell_same w q 2 _ _ _ L.head]; rfl
  · exact L.row.far (heap_setCell_other _ _ _ _ (by exact fun e => L.ne e.symm))
  · exact ownsRow_far hv fun b hb => heap_setCell_other _ _ _ _ (by exact hn b hb)
end

end Go.Proofs.Ytehfclgngkhcpaa.Slot
