/- Several disks beside each other. -/
import Derived.Test.YtfcibccipkokoaaDH
import Derived.Test.YtfcibccipkokoaaDS
namespace Go.Proofs.Ytfcibccipkokoaa.Disk
open Go.RowKit

/-- the disks of a call that began at w: apart from each other, and from the call's other blocks E -/
structure Own (w wi : World) (E : Nat → Prop) (L : List (Nat × D)) : Prop where
  below : Below w.heap.size w wi
  ext : ∀ b, E b → b < wi.heap.size ∧ w.heap.size ≤ b
  ex : ∃ Fs : Nat → Nat → Prop, (∀ i x, L[i]? = some x → Rep wi x.1 x.2 (Fs i)) ∧ (∀ i b, Fs i b → w.heap.size ≤ b ∧ b < wi.heap.size) ∧ (∀ i j b, i ≠ j → Fs i b → ¬ Fs j b) ∧ (∀ i b, Fs i b → ¬ E b) ∧ ∀ i b, Fs i b → i < L.length

theorem Own.start (w : World) : Own w w (fun _ => False) [] :=
  ⟨Below.refl _ _, fun _ h => h.elim, fun _ _ => False, by simp, fun _ _ h => h.elim, fun _ _ _ _ h => h.elim, fun _ _ h => h.elim, fun _ _ h => h.elim⟩

/-- new blocks; some of them may be the call's own -/
theorem Own.laterE {w a b : World} {E E' : Nat → Prop} {L : List (Nat × D)} (h : Own w a E L) (t : Below a.heap.size a b) (hE : ∀ x, E' x → E x ∨ (a.heap.size ≤ x ∧ x < b.heap.size)) : Own w b E' L := by
  have hs := h.below.size
  obtain ⟨Fs, h1, h2, h3, h4, h5⟩ := h.ex
  refine ⟨h.below.trans (t.mono hs), fun x hx => ?_, Fs, fun i x hx => (h1 i x hx).later t, fun i x hx => ⟨(h2 i x hx).1, Nat.lt_of_lt_of_le (h2 i x hx).2 t.size⟩, h3, fun i x hx hE' => ?_, h5⟩
  · rcases hE x hx with h6 | h6
    · exact ⟨Nat.lt_of_lt_of_le (h.ext x h6).1 t.size, (h.ext x h6).2⟩
    · exact ⟨h6.2, by omega⟩
  · rcases hE x hE' with h6 | h6
    · exact h4 i x hx h6
    · have := (h2 i x hx).2; omega
theorem Own.later {w a b : World} {E : Nat → Prop} {L : List (Nat × D)} (h : Own w a E L) (t : Below a.heap.size a b) : Own w b E L := h.laterE t fun _ hx => .inl hx

def upd (Fs : Nat → Nat → Prop) (i : Nat) (G : Nat → Prop) (j : Nat) : Nat → Prop := if j = i then G else Fs j
/-- a call of one of them -/
theorem Own.call {w a : World} {E : Nat → Prop} {L : List (Nat × D)} (h : Own w a E L) {i p : Nat} {d : D} (hi : L[i]? = some (p, d)) :
    ∃ F, Rep a p d F ∧ (∀ x, E x → ¬ F x) ∧ ∀ b d', Rep b p d' (grew F a b) ∧ Touch F a b → Own w b E (L.set i (p, d')) ∧ ∀ x, E x → b.heap[x]? = a.heap[x]? := by
  have hs := h.below.size
  have hil : i < L.length := (List.getElem?_eq_some_iff.1 hi).1
  obtain ⟨Fs, h1, h2, h3, h4, h5⟩ := h.ex
  refine ⟨Fs i, h1 i _ hi, fun x hE hF => h4 i x hF hE, fun b d' ⟨r, t⟩ => ⟨⟨h.below.trans (t.below hs fun x hx => (h2 i x hx).1), fun x hx => ⟨Nat.lt_of_lt_of_le (h.ext x hx).1 t.size, (h.ext x hx).2⟩, upd Fs i (grew (Fs i) a b), fun j x hx => ?_, fun j x hx => ?_, fun j k x hjk hx hk => ?_, fun j x hx hE => ?_, fun j x hx => ?_⟩, fun x hx => t.block x (h.ext x hx).1 fun hF => h4 i x hF hx⟩⟩
  · by_cases e : j = i
    · subst e
      rw [upd, if_pos rfl]
      rw [List.getElem?_set_self hil] at hx
      cases hx
      exact r
    · rw [upd, if_neg e]
      rw [List.getElem?_set_ne (fun h => e h.symm)] at hx
      exact (h1 j x hx).touch t fun b hb hF => h3 j i b e hb hF
  · by_cases e : j = i
    · subst e
      rw [upd, if_pos rfl] at hx
      rcases hx with hx | hx
      · exact ⟨(h2 _ x hx).1, Nat.lt_of_lt_of_le (h2 _ x hx).2 t.size⟩
      · exact ⟨by omega, hx.2⟩
    · rw [upd, if_neg e] at hx
      exact ⟨(h2 _ x hx).1, Nat.lt_of_lt_of_le (h2 _ x hx).2 t.size⟩
  · by_cases e : j = i
    · subst e
      rw [upd, if_pos rfl] at hx
      rw [upd, if_neg (fun h => hjk h.symm)] at hk
      rcases hx with hx | hx
      · exact h3 j k x hjk hx hk
      · have := (h2 k x hk).2; omega
    · rw [upd, if_neg e] at hx
      by_cases e2 : k = i
      · subst e2
        rw [upd, if_pos rfl] at hk
        rcases hk with hk | hk
        · exact h3 j k x hjk hx hk
        · have := (h2 j x hx).2; omega
      · rw [upd, if_neg e2] at hk
        exact h3 j k x hjk hx hk
  · by_cases e : j = i
    · subst e
      rw [upd, if_pos rfl] at hx
      rcases hx with hx | hx
      · exact h4 j x hx hE
      · have := (h.ext x hE).1; omega
    · rw [upd, if_neg e] at hx
      exact h4 j x hx hE
  · rw [List.length_set]
    by_cases e : j = i
    · omega
    · rw [upd, if_neg e] at hx
      exact h5 j x hx
theorem Rep.g0 {a b : World} {p : Nat} {d' : D} {F : Nat → Prop} (r : Rep b p d' F ∧ Touch F a b) : Rep b p d' (grew F a b) ∧ Touch F a b := ⟨r.1.grown a, r.2⟩

/-- one more -/
theorem Own.add {w a b : World} {E : Nat → Prop} {L : List (Nat × D)} (h : Own w a E L) {q : Nat} {d : D} (r : Rep b q d (Fresh a b) ∧ Below a.heap.size a b) : Own w b E (L ++ [(q, d)]) ∧ ∀ x, E x → b.heap[x]? = a.heap[x]? := by
  have hs := h.below.size
  obtain ⟨Fs, h1, h2, h3, h4, h5⟩ := h.ex
  refine ⟨⟨h.below.trans (r.2.mono hs), fun x hx => ⟨Nat.lt_of_lt_of_le (h.ext x hx).1 r.2.size, (h.ext x hx).2⟩, upd Fs L.length (Fresh a b), fun j x hx => ?_, fun j x hx => ?_, fun j k x hjk hx hk => ?_, fun j x hx hE => ?_, fun j x hx => ?_⟩, fun x hx => r.2.block x (h.ext x hx).1⟩
  · by_cases e : j = L.length
    · subst e
      rw [upd, if_pos rfl]
      simp at hx
      subst hx
      exact r.1
    · rw [upd, if_neg e]
      rw [List.getElem?_append] at hx
      split at hx
      · exact (h1 j x hx).later r.2
      · have : j - L.length ≠ 0 := by omega
        rw [List.getElem?_eq_none (by simp; omega)] at hx
        cases hx
  · by_cases e : j = L.length
    · rw [upd, if_pos e] at hx
      exact ⟨by have := hx.1; omega, hx.2⟩
    · rw [upd, if_neg e] at hx
      exact ⟨(h2 j x hx).1, Nat.lt_of_lt_of_le (h2 j x hx).2 r.2.size⟩
  · by_cases e : j = L.length
    · rw [upd, if_pos e] at hx
      rw [upd, if_neg (by omega)] at hk
      have := (h2 k x hk).2
      have := hx.1
      omega
    · rw [upd, if_neg e] at hx
      by_cases e2 : k = L.length
      · rw [upd, if_pos e2] at hk
        have := (h2 j x hx).2
        have := hk.1
        omega
      · rw [upd, if_neg e2] at hk
        exact h3 j k x hjk hx hk
  · by_cases e : j = L.length
    · rw [upd, if_pos e] at hx
      have := (h.ext x hE).1
      have := hx.1
      omega
    · rw [upd, if_neg e] at hx
      exact h4 j x hx hE
  · rw [List.length_append]
    by_cases e : j = L.length
    · simp; omega
    · rw [upd, if_neg e] at hx
      have := h5 j x hx
      omega
/-- the call writes into a block of its own -/
theorem Own.setE {w a : World} {E : Nat → Prop} {L : List (Nat × D)} (h : Own w a E L) {x : Addr} (hx : E x.block) (u : Value) : Own w (a.setCell x u) E L := by
  obtain ⟨Fs, h1, h2, h3, h4, h5⟩ := h.ex
  exact ⟨h.below.setCell (h.ext _ hx).2 u, fun b hb => by simpa using h.ext b hb, Fs, fun i y hy => (h1 i y hy).far (by simp) fun b hb => heap_setCell_other _ _ _ _ (fun e => h4 i b hb (e ▸ hx)), fun i b hb => by simpa using h2 i b hb, h3, h4, h5⟩

set_option maxRecDepth 100000 in
/-- truths copied into a new row: 'append([]bool{}, v...)' -/
theorem copy_bools {w : World} {v : Value} {l : List Bool} (h : Bools w v l) (hn : l.length ≤ 140737488351232) (ty : TypeId) : ∃ v' w', (Builtin.append_ #[102, 102] ty #[.slice (some ⟨w.heap.size, 0, none⟩) 0 0, v]).run Try.prog (w.alloc (.cells #[] 4)) = .ok v' w' ∧
    Bools w' v' l ∧ Below w.heap.size w w' ∧ (∀ b, v'.ownBlock = some b → w.heap.size ≤ b ∧ b < w'.heap.size) := by
  obtain ⟨i, hi, hz, hs, hb⟩ := info_parts (show (Try.prog.info? 4).map (fun i => (i.zero, i.size, i.bytes)) = some (some (.bool false), 1, 1) by kernel_rfl)
  obtain ⟨a, c, rfl, hc⟩ := h
  have ho := World.ownsRow_made w (base := w.heap.size) (e := 4) (size := 1) #[] 0 (Nat.le_refl _) (Nat.zero_le _) (by simp)
  have key : ∀ (ad : Addr), (∀ j u, (l.map Value.bool)[j]? = some u → (w.alloc (.cells #[] 4)).cell? (ad.add j) = some u) → ∃ v' w', (Builtin.append_ #[102, 102] ty #[.slice (some ⟨w.heap.size, 0, none⟩) 0 0, .slice (some ad) l.length c]).run Try.prog (w.alloc (.cells #[] 4)) = .ok v' w' ∧
      Bools w' v' l ∧ Below w.heap.size w w' ∧ (∀ b, v'.ownBlock = some b → w.heap.size ≤ b ∧ b < w'.heap.size) := by
    intro ad had
    obtain ⟨v', w', hr, h2, h3, _, _⟩ := run_append_own_at (P := Try.prog) (w.alloc (.cells #[] 4)) w.heap.size 102 ty 4 i _ 1 1 Try.underlying102 hi hz hs hb rfl (by omega) _ 0 [] ho ad l.length c (l.map Value.bool) (by simp) had (by intro u hu; simp at hu; rcases hu with ⟨_, rfl⟩ | ⟨_, rfl⟩ <;> rfl) (by unfold maxLen; omega) (by omega) (by simp)
    have hB : Below w.heap.size w w' := ((Below.refl _ _).alloc (Nat.le_refl _) _).grown h3 (by simp) (fun k hk => by simp [Value.ownBlock] at hk; omega)
    rw [Nat.zero_add, List.nil_append] at h2
    refine ⟨v', w', hr, ?_, hB, fun b hb => h2.lt b hb⟩
    rcases h2.2 with ⟨h4, h5⟩ | ⟨g', c', cur, h4, _⟩
    · have : l = [] := List.eq_nil_of_length_eq_zero h5
      subst this
      exact ⟨none, 0, h4, by simp⟩
    · refine ⟨some ⟨g', 0, none⟩, c', h4, fun j b hj => ⟨g', 0, rfl, ?_⟩⟩
      have := h2.cells (g := g') (by rw [h4]; rfl) j (.bool b) (by simp [hj])
      rwa [Addr.add_mid] at this
  cases a with
  | some ad =>
    refine key ad fun j u hu => ?_
    simp only [List.getElem?_map, Option.map_eq_some_iff] at hu
    obtain ⟨b, hb, rfl⟩ := hu
    obtain ⟨x, o, he, h1⟩ := hc j b hb
    simp at he
    subst he
    rw [Addr.add_mid, World.cell?_alloc_lt _ _ _ (World.block_lt_of_cell? _ _ h1)]
    exact h1
  | none =>
    have hl : l = [] := by
      cases l with
      | nil => rfl
      | cons b r => obtain ⟨_, _, he, _⟩ := hc 0 b rfl; cases he
    subst hl
    refine ⟨.slice (some ⟨w.heap.size, 0, none⟩) 0 0, w.alloc (.cells #[] 4), ?_, ⟨_, 0, rfl, by simp⟩, (Below.refl _ _).alloc (Nat.le_refl _) _, fun b hb => by simp [Value.ownBlock] at hb; subst hb; simp⟩
    simp [Builtin.append_, run_underlying Try.underlying102, sizeOf, typeInfo, hi, Builtin.lenOf, Builtin.firstCells, storeCells]

end Go.Proofs.Ytfcibccipkokoaa.Disk
