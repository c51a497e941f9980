/- What DiskKeeps keeps beside the disk. -/
import Derived.Test.YtnlkadacbpecmaaDK
namespace Go.Proofs.Ytnlkadacbpecmaa.Disk
open Go.RowKit

/-! ### the plain mathematics -/
/-- the texts that were written to a sector, in order -/
def chosen (l : List (Nat × List UInt8)) (k : Nat) : List (List UInt8) := (l.filter (fun x => x.1 == k)).map (·.2)
theorem chosen_snoc (l : List (Nat × List UInt8)) (j : Nat) (t : List UInt8) (k : Nat) : chosen (l ++ [(j, t)]) k = if j = k then chosen l k ++ [t] else chosen l k := by
  by_cases h : j = k <;> simp [chosen, List.filter_append, List.filter_cons, h]
theorem settle_last : ∀ (l : List (Nat × List UInt8)) (s : List (List UInt8)) (k : Nat), k < s.length → (settleAll s l)[k]? = some ((chosen l k).getLastD (s.getD k []))
  | [], s, k, h => by simp [settleAll, chosen, h]
  | x :: r, s, k, h => by
    show (settleAll (settle s x) r)[k]? = _
    rw [settle_last r (settle s x) k (by rw [settle_len]; exact h)]
    by_cases hx : x.1 = k
    · have e : chosen (x :: r) k = x.2 :: chosen r k := by simp [chosen, List.filter_cons, hx]
      have e2 : (settle s x).getD k [] = x.2 := by simp [settle, hx, h]
      rw [e, e2, List.getLastD_cons]
    · have e : chosen (x :: r) k = chosen r k := by simp [chosen, List.filter_cons, hx]
      have e2 : (settle s x).getD k [] = s.getD k [] := by simp [settle, List.getD, hx]
      rw [e, e2]
theorem mem_getLastD : ∀ (l : List (List UInt8)) (d : List UInt8), l.getLastD d = d ∨ l.getLastD d ∈ l
  | [], d => .inl rfl
  | x :: r, d => by
    rw [List.getLastD_cons]
    rcases mem_getLastD r x with h | h
    · right; rw [h]; simp
    · right; exact List.mem_cons_of_mem _ h
theorem getLastD_map (l : List UInt8) (c : UInt8) : (l.map fullL).getLastD (fullL c) = fullL (l.getLastD c) := by
  induction l generalizing c with
  | nil => rfl
  | cons x r ih => rw [List.map_cons, List.getLastD_cons, List.getLastD_cons, ih]

/-- what was synced, and what was written since -/
structure KInv (d : D) (sure : List UInt8) (since : List (List UInt8)) : Prop where
  n : d.sure.length = 4
  s : ∀ k, k < 4 → d.sure.getD k [] = fullL (sure.getD k 0)
  l : ∀ k, k < 4 → chosen d.loose k = (since.getD k []).map fullL
theorem KInv.write {d : D} {sure : List UInt8} {since : List (List UInt8)} (h : KInv d sure since) (h4 : since.length = 4) {j : Nat} (hj : j < 4) (c : UInt8) : KInv (d.write j (fullL c)) sure (since.set j (since.getD j [] ++ [c])) := by
  refine ⟨h.n, h.s, fun k hk => ?_⟩
  show chosen (d.loose ++ [(j, fullL c)]) k = _
  rw [chosen_snoc, h.l k hk]
  by_cases e : j = k
  · subst e
    have : (since.set j (since.getD j [] ++ [c])).getD j [] = since.getD j [] ++ [c] := by simp [List.getD, h4, hj]
    rw [if_pos rfl, this]; simp
  · have : (since.set j (since.getD j [] ++ [c])).getD k [] = since.getD k [] := by simp [List.getD, e]
    rw [if_neg e, this]
theorem KInv.sync {d : D} {sure sure' : List UInt8} {since since' : List (List UInt8)} (h : KInv d sure since) (h1 : ∀ k, k < 4 → sure'.getD k 0 = (since.getD k []).getLastD (sure.getD k 0)) (h2 : ∀ k, k < 4 → since'.getD k [] = []) : KInv d.sync sure' since' := by
  refine ⟨by show (settleAll d.sure d.loose).length = 4; rw [settleAll_len]; exact h.n, fun k hk => ?_, fun k hk => ?_⟩
  · have := settle_last d.loose d.sure k (by rw [h.n]; exact hk)
    show (settleAll d.sure d.loose).getD k [] = _
    rw [List.getD, this, Option.getD_some, h.l k hk, h.s k hk, getLastD_map, h1 k hk]
  · show chosen [] k = _
    rw [h2 k hk]; rfl
theorem KInv.crash {d : D} {sure : List UInt8} {since : List (List UInt8)} (h : KInv d sure since) (keep : List Bool) {k : Nat} (hk : k < 4) : ∃ c, (d.crash keep).sure.getD k [] = fullL c ∧ (c = sure.getD k 0 ∨ c ∈ since.getD k []) := by
  have h1 := settle_last (kept d.loose keep) d.sure k (by rw [h.n]; exact hk)
  show ∃ c, (settleAll d.sure (kept d.loose keep)).getD k [] = fullL c ∧ _
  rw [List.getD, h1, Option.getD_some]
  rcases mem_getLastD (chosen (kept d.loose keep) k) (d.sure.getD k []) with h2 | h2
  · exact ⟨_, by rw [h2]; exact h.s k hk, .inl rfl⟩
  · have h3 : (chosen (kept d.loose keep) k).getLastD (d.sure.getD k []) ∈ chosen d.loose k := by
      simp only [chosen, List.mem_map, List.mem_filter] at h2 ⊢
      obtain ⟨x, ⟨hx, hxk⟩, hxe⟩ := h2
      exact ⟨x, ⟨kept_sub _ _ x hx, hxk⟩, hxe⟩
    rw [h.l k hk, List.mem_map] at h3
    obtain ⟨c, hc, he⟩ := h3
    exact ⟨c, he.symm, .inr hc⟩

/-! ### the memory -/
theorem ownsRow_set {w : World} {B : Nat} {e : TypeId} {g cap n : Nat} {xs : List Value} (h : w.ownsRow B e 1 (.slice (some ⟨g, 0, none⟩) n cap) n xs) {k : Nat} (hk : k < n) (u : Value) :
    (w.setCell ⟨g, k, none⟩ u).ownsRow B e 1 (.slice (some ⟨g, 0, none⟩) n cap) n (xs.set k u) := by
  have h1 := ownsRow_setCells h k [u] (by simp; omega)
  have e1 : w.setCells g k [u] = w.setCell ⟨g, k, none⟩ u := rfl
  rw [e1] at h1
  have hx : k < xs.length := by rw [h.1]; omega
  have e2 : xs.take k ++ [u] ++ xs.drop (k + [u].length) = xs.set k u := by
    rw [List.set_eq_take_append_cons_drop, if_pos hx]
    simp
  rwa [e2] at h1
theorem ownsRow_block {w : World} {B : Nat} {e : TypeId} {size : Nat} {v : Value} {n : Nat} {xs : List Value} (h : w.ownsRow B e size v n xs) {b : Nat} (hb : v.ownBlock = some b) : ∃ cur, w.heap[b]? = some (.cells cur e (0, 0)) := by
  rcases h.2 with ⟨rfl, _⟩ | ⟨g, cap, cur, rfl, _, hg, _⟩
  · simp [Value.ownBlock] at hb
  · simp [Value.ownBlock] at hb
    subst hb
    exact ⟨cur, hg⟩

/-- the call writes into blocks of its own, and makes new ones -/
theorem Own.touchE {w a b : World} {E E' : Nat → Prop} {L : List (Nat × D)} (h : Own w a E L) (t : Touch E a b) (hE : ∀ x, E' x → E x ∨ (a.heap.size ≤ x ∧ x < b.heap.size)) : Own w b E' L := by
  have hs := h.below.size
  obtain ⟨Fs, h1, h2, h3, h4, h5⟩ := h.ex
  refine ⟨h.below.trans (t.below hs fun x hx => (h.ext x hx).2), fun x hx => ?_, Fs, fun i x hx => (h1 i x hx).touch t fun b hb => h4 i b hb, fun i x hx => ⟨(h2 i x hx).1, Nat.lt_of_lt_of_le (h2 i x hx).2 t.size⟩, h3, fun i x hx hE' => ?_, h5⟩
  · rcases hE x hx with h6 | h6
    · exact ⟨Nat.lt_of_lt_of_le (h.ext x h6).1 t.size, (h.ext x h6).2⟩
    · exact ⟨h6.2, by omega⟩
  · rcases hE x hE' with h6 | h6
    · exact h4 i x hx h6
    · have := (h2 i x hx).2; omega

structure Mem (wr : World) (gS gO cO : Nat) (sure : List UInt8) (iv : List Value) (since : List (List UInt8)) : Prop where
  s4 : sure.length = 4
  i4 : iv.length = 4
  n4 : since.length = 4
  S : wr.ownsRow 0 5 1 (.slice (some ⟨gS, 0, none⟩) 4 4) 4 (Lib.byteCells sure)
  O : wr.ownsRow 0 49 1 (.slice (some ⟨gO, 0, none⟩) 4 cO) 4 iv
  I : ∀ (k : Nat) (v : Value) (s : List UInt8), iv[k]? = some v → since[k]? = some s → wr.ownsRow 0 5 1 v s.length (Lib.byteCells s)
  a1 : ∀ (k : Nat) (v : Value), iv[k]? = some v → v.ownBlock ≠ some gS
  a2 : ∀ (j k : Nat) (v u : Value) (b : Nat), j ≠ k → iv[j]? = some v → iv[k]? = some u → v.ownBlock = some b → u.ownBlock ≠ some b
def MemE (gS gO : Nat) (iv : List Value) (b : Nat) : Prop := b = gS ∨ b = gO ∨ ∃ (k : Nat) (v : Value), iv[k]? = some v ∧ v.ownBlock = some b

section
variable {wr : World} {gS gO cO : Nat} {sure : List UInt8} {iv : List Value} {since : List (List UInt8)}
theorem Mem.far {w' : World} (h : Mem wr gS gO cO sure iv since) (hk : ∀ b, MemE gS gO iv b → w'.heap[b]? = wr.heap[b]?) : Mem w' gS gO cO sure iv since :=
  ⟨h.s4, h.i4, h.n4, ownsRow_far h.S fun b hb => by simp [Value.ownBlock] at hb; subst hb; exact hk _ (.inl rfl), ownsRow_far h.O fun b hb => by simp [Value.ownBlock] at hb; subst hb; exact hk _ (.inr (.inl rfl)),
   fun k v s hv hs => ownsRow_far (h.I k v s hv hs) fun b hb => hk b (.inr (.inr ⟨k, v, hv, hb⟩)), h.a1, h.a2⟩
theorem Mem.lt (h : Mem wr gS gO cO sure iv since) : ∀ b, MemE gS gO iv b → b < wr.heap.size := by
  rintro b (rfl | rfl | ⟨k, v, hv, hb⟩)
  · exact (h.S.lt b rfl).2
  · exact (h.O.lt b rfl).2
  · have hk : k < since.length := by rw [h.n4, ← h.i4]; exact (List.getElem?_eq_some_iff.1 hv).1
    exact ((h.I k v _ hv (List.getElem?_eq_getElem hk)).lt b hb).2
theorem Mem.ne (h : Mem wr gS gO cO sure iv since) : gS ≠ gO := by
  rintro rfl
  obtain ⟨c1, h1⟩ := ownsRow_block h.S (b := gS) rfl
  obtain ⟨c2, h2⟩ := ownsRow_block h.O (b := gS) rfl
  have := h1.symm.trans h2
  simp at this
theorem Mem.neI (h : Mem wr gS gO cO sure iv since) {k : Nat} {v : Value} (hv : iv[k]? = some v) : v.ownBlock ≠ some gO := by
  intro hb
  have hk : k < since.length := by rw [h.n4, ← h.i4]; exact (List.getElem?_eq_some_iff.1 hv).1
  obtain ⟨c1, h1⟩ := ownsRow_block (h.I k v _ hv (List.getElem?_eq_getElem hk)) hb
  obtain ⟨c2, h2⟩ := ownsRow_block h.O (b := gO) rfl
  have := h1.symm.trans h2
  simp at this
theorem byteCells_set (l : List UInt8) (k : Nat) (c : UInt8) : (Lib.byteCells l).set k (.int .u8 (c.toNat : Int)) = Lib.byteCells (l.set k c) := by simp [Lib.byteCells, List.map_set]
theorem Mem.setS (h : Mem wr gS gO cO sure iv since) {k : Nat} (hk : k < 4) (c : UInt8) : Mem (wr.setCell ⟨gS, k, none⟩ (.int .u8 (c.toNat : Int))) gS gO cO (sure.set k c) iv since :=
  ⟨by simp [h.s4], h.i4, h.n4, by rw [← byteCells_set]; exact ownsRow_set h.S hk _, ownsRow_far h.O fun b hb => heap_setCell_other _ _ _ _ (by simp [Value.ownBlock] at hb; subst hb; exact fun e => h.ne e.symm),
   fun j v s hv hs => ownsRow_far (h.I j v s hv hs) fun b hb => heap_setCell_other _ _ _ _ (fun e => h.a1 j v hv (by rw [hb, e])), h.a1, h.a2⟩
theorem Mem.nilO (h : Mem wr gS gO cO sure iv since) {k : Nat} (hk : k < 4) : Mem (wr.setCell ⟨gO, k, none⟩ (.slice none 0 0)) gS gO cO sure (iv.set k (.slice none 0 0)) (since.set k []) := by
  have hil : k < iv.length := by rw [h.i4]; exact hk
  have hnl : k < since.length := by rw [h.n4]; exact hk
  refine ⟨h.s4, by simp [h.i4], by simp [h.n4], ownsRow_far h.S fun b hb => heap_setCell_other _ _ _ _ (by simp [Value.ownBlock] at hb; subst hb; exact h.ne), ownsRow_set h.O hk _, fun j v s hv hs => ?_, fun j v hv => ?_, fun i j v u b hij hv hu hb => ?_⟩
  · by_cases e : j = k
    · subst e
      rw [List.getElem?_set_self hil] at hv
      rw [List.getElem?_set_self hnl] at hs
      cases hv; cases hs
      exact World.ownsRow_nil _ _ _ _
    · rw [List.getElem?_set_ne (fun h => e h.symm)] at hv hs
      exact ownsRow_far (h.I j v s hv hs) fun b hb => heap_setCell_other _ _ _ _ (fun e => h.neI hv (by rw [hb, e]))
  · by_cases e : j = k
    · subst e
      rw [List.getElem?_set_self hil] at hv
      cases hv
      simp [Value.ownBlock]
    · rw [List.getElem?_set_ne (fun h => e h.symm)] at hv
      exact h.a1 j v hv
  · by_cases e : i = k
    · subst e
      rw [List.getElem?_set_self hil] at hv
      cases hv
      simp [Value.ownBlock] at hb
    · rw [List.getElem?_set_ne (fun h => e h.symm)] at hv
      by_cases e2 : j = k
      · subst e2
        rw [List.getElem?_set_self hil] at hu
        cases hu
        simp [Value.ownBlock]
      · rw [List.getElem?_set_ne (fun h => e2 h.symm)] at hu
        exact h.a2 i j v u b hij hv hu hb
/-- one more byte in a row: it may lie anew -/
theorem Mem.put (h : Mem wr gS gO cO sure iv since) {k : Nat} (hk : k < 4) {v v' : Value} {s : List UInt8} (hv : iv[k]? = some v) (hs : since[k]? = some s) (o : Obj) {w1 : World} (hG : (wr.drew.alloc o).grownBy w1 v.ownBlock) {c : UInt8}
    (hown : w1.ownsRow 0 5 1 v' (s.length + 1) (Lib.byteCells (s ++ [c]))) (hat : ∀ b, v'.ownBlock = some b → v.ownBlock = some b ∨ wr.heap.size ≤ b) :
    Mem (w1.setCell ⟨gO, k, none⟩ v') gS gO cO sure (iv.set k v') (since.set k (s ++ [c])) := by
  have hil : k < iv.length := by rw [h.i4]; exact hk
  have hnl : k < since.length := by rw [h.n4]; exact hk
  have hlt := h.lt
  have far : ∀ b, MemE gS gO iv b → v.ownBlock ≠ some b → w1.heap[b]? = wr.heap[b]? := fun b hb hne => by
    have := hlt b hb
    rw [hG.block b (by simp; omega) (fun e => hne e.symm)]
    exact Below.heap_alloc wr.drew o b this
  have far2 : ∀ b, MemE gS gO iv b → v.ownBlock ≠ some b → b ≠ gO → (w1.setCell ⟨gO, k, none⟩ v').heap[b]? = wr.heap[b]? := fun b hb hne hgo => (heap_setCell_other _ _ _ _ hgo).trans (far b hb hne)
  have hO : w1.ownsRow 0 49 1 (.slice (some ⟨gO, 0, none⟩) 4 cO) 4 iv := ownsRow_far h.O fun b hb => by
    simp [Value.ownBlock] at hb; subst hb
    exact far _ (.inr (.inl rfl)) (h.neI hv)
  have hv' : ∀ b, v'.ownBlock = some b → b ≠ gO := fun b hb e => by
    subst e
    obtain ⟨c1, h1⟩ := ownsRow_block hown hb
    obtain ⟨c2, h2⟩ := ownsRow_block hO (b := b) rfl
    have := h1.symm.trans h2
    simp at this
  refine ⟨h.s4, by simp [h.i4], by simp [h.n4], ownsRow_far h.S fun b hb => ?_, ownsRow_set hO hk _, fun j u t hu ht => ?_, fun j u hu => ?_, fun i j u z b hij hu hz hb => ?_⟩
  · simp [Value.ownBlock] at hb; subst hb
    exact far2 _ (.inl rfl) (h.a1 k v hv) h.ne
  · by_cases e : j = k
    · subst e
      rw [List.getElem?_set_self hil] at hu
      rw [List.getElem?_set_self hnl] at ht
      cases hu; cases ht
      have e1 : (s ++ [c]).length = s.length + 1 := by simp
      rw [e1]
      exact ownsRow_far hown fun b hb => heap_setCell_other _ _ _ _ (hv' b hb)
    · rw [List.getElem?_set_ne (fun h => e h.symm)] at hu ht
      exact ownsRow_far (h.I j u t hu ht) fun b hb => far2 b (.inr (.inr ⟨j, u, hu, hb⟩)) (h.a2 j k u v b e hu hv hb) (fun e => h.neI hu (by rw [hb, e]))
  · by_cases e : j = k
    · subst e
      rw [List.getElem?_set_self hil] at hu
      cases hu
      intro hb
      rcases hat gS hb with h1 | h1
      · exact h.a1 j v hv h1
      · have := hlt gS (.inl rfl); omega
    · rw [List.getElem?_set_ne (fun h => e h.symm)] at hu
      exact h.a1 j u hu
  · by_cases e : i = k
    · subst e
      rw [List.getElem?_set_self hil] at hu
      cases hu
      rw [List.getElem?_set_ne hij] at hz
      rcases hat b hb with h1 | h1
      · exact h.a2 i j v z b hij hv hz h1
      · intro hz2
        have := hlt b (.inr (.inr ⟨j, z, hz, hz2⟩))
        omega
    · rw [List.getElem?_set_ne (fun h => e h.symm)] at hu
      by_cases e2 : j = k
      · subst e2
        rw [List.getElem?_set_self hil] at hz
        cases hz
        intro hz2
        rcases hat b hz2 with h1 | h1
        · exact h.a2 i j u v b hij hu hv hb h1
        · have := hlt b (.inr (.inr ⟨i, u, hu, hb⟩))
          omega
      · rw [List.getElem?_set_ne (fun h => e2 h.symm)] at hz
        exact h.a2 i j u z b hij hu hz hb
end

end Go.Proofs.Ytnlkadacbpecmaa.Disk
