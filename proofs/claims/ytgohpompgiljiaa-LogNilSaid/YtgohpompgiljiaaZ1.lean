/-
  Memory: slices that lie at any place of their blocks, in blocks of which one knows whose they are: append, a reslice, a part; and whose blocks are (any stage).
  Memory: slices that lie at any place: append where there is room, the first ones, what is cleared (any stage).
  Memory: shapes of bytes, of numbers of 64 bits, of a log's records.
-/
import Derived.Deep.Upon
import Derived.Laws.IdiomCopy
import Derived.Test.YtgohpompgiljiaaZ16
import Derived.Test.YtgohpompgiljiaaZ15
import Derived.Test.YtgohpompgiljiaaZ17
namespace Go.Proofs.Ytgohpompgiljiaa.Sl
open Go.RowKit
open Go.Proofs.Ytgohpompgiljiaa.Disk (grew)
open Go.Proofs.Ytgohpompgiljiaa.Seq (Shp all all_len all_one all_app all_at)

variable {P : Program} {α : Type}
/-- v is this list; if it has room at all, it lies in a block of F, whose places are all there -/
def Sl (S : Shp P α) (F : Nat → Prop) (w : World) (v : Value) (l : List α) : Prop :=
  ∃ a c, v = .slice a l.length c ∧ l.length ≤ c ∧ c ≤ maxLen ∧ (c = 0 ∨ ∃ g o, a = some ⟨g, o, none⟩ ∧ F g ∧ g < w.heap.size ∧
    (∀ j, j < c * S.k → (w.cell? ⟨g, o + j, none⟩).isSome = true ∧ w.frozen? ⟨g, o + j, none⟩ = false) ∧ ∀ j u, (all S l)[j]? = some u → w.cell? ⟨g, o + j, none⟩ = some u)
section
variable {S : Shp P α} {F G : Nat → Prop} {w w' : World} {v : Value} {l : List α}
theorem Sl.shape (h : Sl S F w v l) : ∃ a c, v = .slice a l.length c := by
  obtain ⟨a, c, hv, _⟩ := h
  exact ⟨a, c, hv⟩
theorem Sl.shape3 (h : Sl S F w v l) : ∃ a n c, v = .slice a n c := by
  obtain ⟨a, c, hv, _⟩ := h
  exact ⟨a, _, c, hv⟩
theorem Sl.far (h : Sl S F w v l) (hs : w.heap.size ≤ w'.heap.size) (hk : ∀ b, F b → b < w.heap.size → w'.heap[b]? = w.heap[b]?) : Sl S F w' v l := by
  obtain ⟨a, c, hv, h1, h2, h3⟩ := h
  refine ⟨a, c, hv, h1, h2, h3.imp id ?_⟩
  rintro ⟨g, o, ha, hF, hg, ht, hc⟩
  have e := hk g hF hg
  exact ⟨g, o, ha, hF, Nat.lt_of_lt_of_le hg hs, fun j hj => by rw [World.cell?_of_block (a := ⟨g, o + j, none⟩) e, World.frozen?_of_block (a := ⟨g, o + j, none⟩) e]; exact ht j hj, fun j u hu => (World.cell?_of_block (a := ⟨g, o + j, none⟩) e).trans (hc j u hu)⟩
theorem Sl.touch (h : Sl S F w v l) (t : Disk.Touch G w w') (hd : ∀ b, F b → ¬ G b) : Sl S F w' v l := h.far t.size fun b hF hb => t.block b hb (hd b hF)
theorem Sl.later (h : Sl S F w v l) (t : Below w.heap.size w w') : Sl S F w' v l := h.far t.size fun b _ hb => t.block b hb
theorem Sl.mono (h : Sl S F w v l) (hG : ∀ b, F b → b < w.heap.size → G b) : Sl S G w v l := by
  obtain ⟨a, c, hv, h1, h2, h3⟩ := h
  refine ⟨a, c, hv, h1, h2, h3.imp id ?_⟩
  rintro ⟨g, o, ha, hF, hg, ht, hc⟩
  exact ⟨g, o, ha, hG g hF hg, hg, ht, hc⟩
theorem Sl.nil (S : Shp P α) (F : Nat → Prop) (w : World) : Sl S F w (.slice none 0 0) [] := ⟨none, 0, rfl, Nat.le_refl _, Nat.zero_le _, .inl rfl⟩
theorem Sl.bare (S : Shp P α) (F : Nat → Prop) (w : World) (a : Option Addr) : Sl S F w (.slice a 0 0) [] := ⟨a, 0, rfl, Nat.le_refl _, Nat.zero_le _, .inl rfl⟩
theorem Sl.of_cells {g o c : Nat} (hn : l.length ≤ c) (hc : c ≤ maxLen) (hF : F g) (hg : g < w.heap.size) (ht : ∀ j, j < c * S.k → (w.cell? ⟨g, o + j, none⟩).isSome = true ∧ w.frozen? ⟨g, o + j, none⟩ = false)
    (hu : ∀ j u, (all S l)[j]? = some u → w.cell? ⟨g, o + j, none⟩ = some u) : Sl S F w (.slice (some ⟨g, o, none⟩) l.length c) l :=
  ⟨_, c, rfl, hn, hc, .inr ⟨g, o, rfl, hF, hg, ht, hu⟩⟩
theorem Sl.ofOwn {B : Nat} (h : w.ownsRow B S.e S.k v l.length (all S l)) (hF : ∀ b, v.ownBlock = some b → F b) : Sl S F w v l := by
  rcases h.2 with ⟨rfl, h2⟩ | ⟨g, c, cur, rfl, hb, hg, hn, hm, hc, ht⟩
  · rw [List.eq_nil_of_length_eq_zero h2]
    exact Sl.nil S F w
  · have hlt := (Array.getElem?_eq_some_iff.1 hg).1
    refine ⟨_, c, rfl, hn, hm, .inr ⟨g, 0, rfl, hF g rfl, hlt, fun j hj => ⟨?_, ?_⟩, fun j u hu => ?_⟩⟩
    · rw [Nat.zero_add, cell_of_row w g j cur _ _ hg, Array.getElem?_eq_getElem (by rw [hc]; exact hj)]; rfl
    · exact frozen_of_row w g _ cur _ hg
    · have hj := (List.getElem?_eq_some_iff.1 hu).1
      rw [all_len] at hj
      rw [Nat.zero_add, cell_of_row w g _ cur _ _ hg, ← Array.getElem?_toList, ← hu, ← ht, List.getElem?_take, if_pos hj]
/-- element i, cell by cell -/
theorem Sl.at {a : Option Addr} {n c : Nat} (h : Sl S F w (.slice a n c) l) {i : Nat} {x : α} (hx : l[i]? = some x) : ∃ g o, a = some ⟨g, o, none⟩ ∧ F g ∧ g < w.heap.size ∧ ∀ j u, (S.cells x)[j]? = some u → w.cell? ⟨g, o + (i * S.k + j), none⟩ = some u := by
  obtain ⟨a', c', hv, h1, _, hc⟩ := h
  simp only [Value.slice.injEq] at hv
  obtain ⟨rfl, _, rfl⟩ := hv
  have hi := (List.getElem?_eq_some_iff.1 hx).1
  rcases hc with rfl | ⟨g, o, ha, hF, hg, _, hj⟩
  · omega
  · refine ⟨g, o, ha, hF, hg, fun j u hu => hj _ u ?_⟩
    have hjk : j < S.k := by have := (List.getElem?_eq_some_iff.1 hu).1; rwa [S.len] at this
    rw [all_at S l i x hx j hjk, hu]
/-- what append's second argument yields -/
theorem Sl.src (h : Sl S F w v l) : Go.Src P S.k S.t v l.length (all S l) w := by
  obtain ⟨a, c, rfl, h1, _, hc⟩ := h
  rcases hc with rfl | ⟨g, o, rfl, _, _, _, hj⟩
  · have : l = [] := List.eq_nil_of_length_eq_zero (by omega)
    subst this
    cases a with
    | none => exact Src.ofNil w S.under 0
    | some a => exact Src.ofSlice w S.under a 0 0 [] (by simp) (by simp) (by simp)
  · exact Src.ofSlice w S.under _ _ _ _ (all_len S l) (fun j u hu => by rw [Addr.add_lit]; exact hj j u hu) (all_one S l)
theorem touch_setCells {g : Nat} (hg : F g) (vs : List Value) (o : Nat) (w : World) : Disk.Touch F w (w.setCells g o vs) := Disk.Touch.setCells hg vs o (Disk.Touch.refl F w)
theorem len_of_all {l m : List α} (h : all S l = all S m) : l.length = m.length := by
  have h1 := all_len S l
  rw [h, all_len] at h1
  exact (Nat.eq_of_mul_eq_mul_right S.kpos h1).symm
/-- append -/
theorem Sl.app {tx : TypeId} {x : Value} {m : List α} (ty : TypeId) (h : Sl S F w v l) (hs : Go.Src P S.k tx x m.length (all S m) w) (hn : l.length + m.length ≤ 1000000000) :
    ∃ v' w', (Builtin.append_ #[S.t, tx] ty #[v, x]).run P w = .ok v' w' ∧ Sl S (grew F w w') w' v' (l ++ m) ∧ Disk.Touch F w w' := by
  obtain ⟨i0, hi, hz0, hz1, hz2⟩ := info_parts S.info
  obtain ⟨a, c, rfl, h1, h2, hc⟩ := h
  have hb : (l.length + m.length) * i0.bytes ≤ 140737488355328 := by
    rw [hz2]
    exact Nat.le_trans (Nat.mul_le_mul hn S.small) (by decide)
  rw [← hz1] at hs
  by_cases hr : l.length + m.length ≤ c
  · rcases hc with rfl | ⟨g, o, rfl, hF, hg, ht, hj⟩
    · have hl : l = [] := List.eq_nil_of_length_eq_zero (by omega)
      have hm : m = [] := List.eq_nil_of_length_eq_zero (by omega)
      subst hl hm
      exact ⟨_, _, run_append_nothing w S.t tx ty S.e i0 S.under hi a 0 0 (Nat.le_refl _) x hs, ⟨a, 0, rfl, Nat.le_refl _, Nat.zero_le _, .inl rfl⟩, Disk.Touch.refl _ _⟩
    · have hml := all_len S m
      have hlen : (l.length + m.length) * S.k ≤ c * S.k := Nat.mul_le_mul_right _ hr
      rw [Nat.add_mul] at hlen
      have hrun := run_append_room_src (P := P) w S.t tx ty S.e i0 S.under hi g o l.length c x m.length (all S m) hs hr
        (fun j hj' => by rw [hz1, Nat.add_assoc]; exact (ht _ (by omega)).1) (fun j hj' => by rw [hz1, Nat.add_assoc]; exact (ht _ (by omega)).2)
      rw [hz1] at hrun
      have hsz : w.heap.size ≤ (w.setCells g (o + l.length * S.k) (all S m)).heap.size := (touch_setCells hF _ _ _).size
      refine ⟨_, _, hrun, ⟨some ⟨g, o, none⟩, c, by rw [List.length_append], by rw [List.length_append]; exact hr, h2, .inr ⟨g, o, rfl, .inl hF, Nat.lt_of_lt_of_le hg hsz, fun j hj' => ⟨World.isSome_setCells g _ _ _ _ (ht j hj').1, by rw [World.frozen?_setCells]; exact (ht j hj').2⟩, fun j u hu => ?_⟩⟩, touch_setCells hF _ _ _⟩
      have hll := all_len S l
      rw [all_app] at hu
      by_cases hjl : j < l.length * S.k
      · rw [List.getElem?_append_left (by rw [hll]; exact hjl)] at hu
        rw [World.cell?_setCells_out g _ _ _ _ (fun _ _ => .inl (by show o + j < _; omega))]
        exact hj j u hu
      · rw [List.getElem?_append_right (by rw [hll]; omega), hll] at hu
        obtain ⟨hlt, he⟩ := List.getElem?_eq_some_iff.1 hu
        have hin := World.cell?_setCells_in g (all S m) (o + l.length * S.k) w (fun i hi' => by rw [Nat.add_assoc]; exact (ht _ (by omega)).1) (j - l.length * S.k) hlt
        rw [show o + l.length * S.k + (j - l.length * S.k) = o + j from by omega] at hin
        rw [hin, he]
  · have hold : (Builtin.firstCells i0.size l.length (.slice a l.length c)).run P w.drew = .ok (all S l).toArray w.drew := by
      rcases hc with rfl | ⟨g, o, rfl, hF, hg, ht, hj⟩
      · have hl : l = [] := List.eq_nil_of_length_eq_zero (by omega)
        subst hl
        cases a with
        | none => exact run_firstCells_none w.drew _ 0 0 0
        | some a => exact run_firstCells_some w.drew _ 0 a 0 0 [] (by simp) (by simp)
      · rw [hz1]
        exact run_firstCells_some w.drew S.k l.length ⟨g, o, none⟩ l.length c (all S l) (all_len S l) (fun j u hu => by rw [Addr.add_lit]; exact hj j u hu)
    have hrun := run_append_grow_src (P := P) w S.t tx ty S.e i0 S.zero S.under hi hz0 a l.length c (all S l) hold x m.length (all S m) hs (by omega) (by omega) (growslice_fits (by omega) hb)
    have hge := grownCap_ge w (l.length + m.length) c S.e
    have hcm := grownCap_le_maxLen w (l.length + m.length) c S.e (by unfold maxLen; omega)
    have hL : (all S l ++ all S m).length = (l.length + m.length) * S.k := by rw [List.length_append, all_len, all_len, Nat.add_mul]
    generalize grownCap w (l.length + m.length) c S.e = C at *
    have hcells : ∀ j, j < C * S.k → ((all S l ++ all S m).toArray ++ Builtin.zeroCells S.zero.cells (C - (l.length + m.length))).size = C * S.k := fun _ _ => by
      rw [Array.size_append, List.size_toArray, hL, size_zeroCells, S.zk, ← Nat.add_mul]
      congr 1
      omega
    have hnew : _ = _ := heap_alloc_new w.drew (.cells ((all S l ++ all S m).toArray ++ Builtin.zeroCells S.zero.cells (C - (l.length + m.length))) S.e)
    have hB : Below w.heap.size w (w.drew.alloc (.cells ((all S l ++ all S m).toArray ++ Builtin.zeroCells S.zero.cells (C - (l.length + m.length))) S.e)) := (Below.refl _ w).drew.alloc (Nat.le_refl _) _
    have hsz : (w.drew.alloc (.cells ((all S l ++ all S m).toArray ++ Builtin.zeroCells S.zero.cells (C - (l.length + m.length))) S.e)).heap.size = w.heap.size + 1 := by simp
    change _[w.heap.size]? = _ at hnew
    generalize hW : w.drew.alloc (.cells ((all S l ++ all S m).toArray ++ Builtin.zeroCells S.zero.cells (C - (l.length + m.length))) S.e) = W at *
    refine ⟨_, _, hrun, ⟨some ⟨w.heap.size, 0, none⟩, C, by rw [List.length_append], by rw [List.length_append]; exact hge, hcm, .inr ⟨w.heap.size, 0, rfl, .inr ⟨Nat.le_refl _, by omega⟩, by omega, fun j hj => ⟨?_, ?_⟩, fun j u hu => ?_⟩⟩, Disk.Touch.ofNew hB⟩
    · rw [Nat.zero_add, cell_of_row W _ j _ _ _ hnew, Array.getElem?_eq_getElem (by rw [hcells j hj]; exact hj)]; rfl
    · exact frozen_of_row W _ _ _ _ hnew
    · have hj := (List.getElem?_eq_some_iff.1 hu).1
      rw [all_app] at hu hj
      rw [Nat.zero_add, cell_of_row W _ j _ _ _ hnew, Array.getElem?_append_left (by simpa using hj), List.getElem?_toArray, hu]
/-- what lies from k on -/
theorem Sl.drop (h : Sl S F w v l) {k : Nat} (hk : k ≤ l.length) :
    ∃ x, (∀ W : World, (Instr.sliceAt S.t v (some (.int .i64 (k : Int))) none none).run P W = .ok x W) ∧ Sl S F w x (l.drop k) := by
  obtain ⟨ad, c, rfl, h1, h2, hc⟩ := h
  have hd := congrArg (List.drop (k * S.k)) (all_app S (l.take k) (l.drop k))
  rw [List.take_append_drop, List.drop_left' (by rw [all_len, List.length_take]; congr 1; omega)] at hd
  refine ⟨sliced ad k l.length c S.k, fun W => ?_, ?_⟩
  · rw [run_sliceAt_slice (P := P) W S.t _ _ _ _ S.elem, run_slice_l (P := P) W S.t _ _ _ S.elem .i64 (k : Int) (by omega) (by omega), S.size]
    rfl
  · unfold sliced
    refine ⟨_, _, by rw [List.length_drop], by rw [List.length_drop]; omega, by omega, ?_⟩
    by_cases hkc : c = k
    · exact .inl (by omega)
    rcases hc with rfl | ⟨g, o, rfl, hF, hg, ht, hj⟩
    · exact .inl (by omega)
    · have e : (c - k) * S.k + k * S.k = c * S.k := by rw [← Nat.add_mul]; congr 1; omega
      refine .inr ⟨g, o + k * S.k, ?_, hF, hg, fun j hj' => ?_, fun j u hu => ?_⟩
      · rw [if_neg hkc, Option.map_some, Addr.add_mid]
      · rw [Nat.add_assoc]
        exact ht _ (by omega)
      · rw [← hd, List.getElem?_drop] at hu
        rw [Nat.add_assoc]
        exact hj _ u hu
/-- none of it, and no room: what a copy begins with -/
theorem Sl.empty0 (h : Sl S F w v l) : ∃ a, ∀ W : World, (Instr.sliceAt S.t v none (some (.int .i64 0)) (some (.int .i64 0))).run P W = .ok (.slice a 0 0) W := by
  obtain ⟨ad, c, rfl, h1, h2, hc⟩ := h
  refine ⟨ad, fun W => ?_⟩
  rw [run_sliceAt_slice (P := P) W S.t _ _ _ _ S.elem, run_slice_hm (P := P) W S.t _ _ _ S.elem .i64 .i64 0 0 (by omega) (by omega) (by omega), S.size]
  simp [sliced, Result.andThen]
end

/-! ### whose blocks are -/
/-- from the world w to w': no block is touched but those of I's, and new ones; new ones are I's, or nobody's -/
structure Step (I : Nat → Prop) (T T' : Nat → Nat) (w w' : World) : Prop where
  touch : Disk.Touch (fun b => I (T b)) w w'
  old : ∀ b, b < w.heap.size → T' b = T b
  new : ∀ b, w.heap.size ≤ b → T' b = 0 ∨ (b < w'.heap.size ∧ I (T' b))
section
variable {I J : Nat → Prop} {T T' T'' : Nat → Nat} {w w' w'' : World}
theorem Step.refl (I : Nat → Prop) {T : Nat → Nat} {w : World} (h : ∀ b, T b ≠ 0 → b < w.heap.size) : Step I T T w w := ⟨Disk.Touch.refl _ _, fun _ _ => rfl, fun b hb => .inl (by
  by_cases e : T b = 0
  · exact e
  · have := h b e; omega)⟩
theorem Step.trans (h : Step I T T' w w') (k : Step I T' T'' w' w'') (_h0 : ¬ I 0) : Step I T T'' w w'' := by
  have hs := h.touch.size
  refine ⟨h.touch.trans k.touch (fun x hx hI => by rw [h.old x hx] at hI; exact hI), fun b hb => (k.old b (by omega)).trans (h.old b hb), fun b hb => ?_⟩
  by_cases hb' : b < w'.heap.size
  · rw [k.old b hb']
    exact (h.new b hb).imp id fun ⟨h1, h2⟩ => ⟨Nat.lt_of_lt_of_le h1 k.touch.size, h2⟩
  · exact k.new b (by omega)
theorem Step.mono (h : Step I T T' w w') (hJ : ∀ i, I i → J i) : Step J T T' w w' := ⟨h.touch.mono fun _b hb => hJ _ hb, h.old, fun b hb => (h.new b hb).imp id fun ⟨h1, h2⟩ => ⟨h1, hJ _ h2⟩⟩
/-- new blocks that are nobody's -/
theorem Step.below (I : Nat → Prop) {T : Nat → Nat} (hT : ∀ b, T b ≠ 0 → b < w.heap.size) (h : Below w.heap.size w w') : Step I T T w w' := ⟨Disk.Touch.ofNew h, fun _ _ => rfl, fun b hb => .inl (by
  by_cases e : T b = 0
  · exact e
  · have := hT b e; omega)⟩
theorem Step.lt (h : Step I T T' w w') (_hT : ∀ b, T b ≠ 0 → b < w.heap.size) (_h0 : ¬ I 0) : ∀ b, T' b ≠ 0 → b < w'.heap.size := fun b hb => by
  by_cases hlt : b < w.heap.size
  · exact Nat.lt_of_lt_of_le hlt h.touch.size
  · rcases h.new b (by omega) with e | ⟨h1, _⟩
    · exact absurd e hb
    · exact h1
/-- blocks of an i that is none of I's lie as they lay -/
theorem Step.keeps (h : Step I T T' w w') {i : Nat} (hi : ¬ I i) (h0 : i ≠ 0) : ∀ b, T' b = i → b < w.heap.size ∧ T b = i ∧ w'.heap[b]? = w.heap[b]? := fun b hb => by
  by_cases hlt : b < w.heap.size
  · have e := (h.old b hlt).symm.trans hb
    exact ⟨hlt, e, h.touch.block b hlt (by rw [e]; exact hi)⟩
  · rcases h.new b (by omega) with e | ⟨_, h1⟩
    · omega
    · rw [hb] at h1; exact absurd h1 hi
/-- new blocks become i's -/
def re (T : Nat → Nat) (w w' : World) (i : Nat) (b : Nat) : Nat := if b < w.heap.size then T b else if b < w'.heap.size then i else 0
theorem re_grew (hT : ∀ b, T b ≠ 0 → b < w.heap.size) {i : Nat} (hi : i ≠ 0) (b : Nat) : re T w w' i b = i ↔ grew (fun b => T b = i) w w' b := by
  unfold re grew
  by_cases h1 : b < w.heap.size
  · rw [if_pos h1]
    exact ⟨.inl, fun h => h.elim id fun h => by omega⟩
  · rw [if_neg h1]
    by_cases h2 : b < w'.heap.size
    · rw [if_pos h2]
      exact ⟨fun _ => .inr ⟨by omega, h2⟩, fun _ => rfl⟩
    · rw [if_neg h2]
      refine ⟨fun h => absurd h.symm hi, fun h => ?_⟩
      rcases h with h | h
      · have := hT b (by omega); omega
      · omega
theorem Step.re {i : Nat} (hI : I i) (h : Disk.Touch (fun b => T b = i) w w') : Step I T (re T w w' i) w w' := by
  refine ⟨h.mono (fun x hx => by rw [hx]; exact hI), fun b hb => by unfold Sl.re; rw [if_pos hb], fun b hb => ?_⟩
  unfold Sl.re
  rw [if_neg (by omega)]
  by_cases h2 : b < w'.heap.size
  · rw [if_pos h2]; exact .inr ⟨h2, hI⟩
  · rw [if_neg h2]; exact .inl rfl
end

end Go.Proofs.Ytgohpompgiljiaa.Sl

namespace Go.Proofs.Ytgohpompgiljiaa.Sl
open Go.RowKit
open Go.Proofs.Ytgohpompgiljiaa.Disk (grew)
open Go.Proofs.Ytgohpompgiljiaa.Seq (Shp all all_len all_one all_app all_at)
section
variable {P : Program} {α : Type} {S : Shp P α} {F : Nat → Prop} {w : World} {a : Option Addr} {c k n : Nat} {l : List α}
/-- the address is what it is, moved by nothing -/
theorem Sl.addr0 (h : Sl S F w (.slice a n c) l) : (if c = 0 then a else a.map (·.add (0 * S.k))) = a := by
  obtain ⟨a', c', hv, h1, h2, hc⟩ := h
  simp only [Value.slice.injEq] at hv
  obtain ⟨rfl, _, rfl⟩ := hv
  rcases hc with rfl | ⟨g, o, rfl, _⟩
  · rw [if_pos rfl]
  · split
    · rfl
    · rw [Option.map_some, Addr.add_mid]; simp
theorem Sl.cap (h : Sl S F w (.slice a n c) l) : l.length = n ∧ n ≤ c ∧ c ≤ maxLen := by
  obtain ⟨a', c', hv, h1, h2, hc⟩ := h
  simp only [Value.slice.injEq] at hv
  obtain ⟨_, rfl, rfl⟩ := hv
  exact ⟨rfl, h1, h2⟩
/-- none of its places, but all its room -/
theorem Sl.head0 (h : Sl S F w (.slice a n c) l) : (∀ W : World, (Instr.sliceAt S.t (.slice a n c) none (some (.int .i64 0)) none).run P W = .ok (.slice a 0 c) W) ∧ Sl S F w (.slice a 0 c) [] := by
  refine ⟨fun W => ?_, ?_⟩
  · rw [run_sliceAt_slice (P := P) W S.t _ _ _ _ S.elem, run_slice_h (P := P) W S.t _ _ _ S.elem .i64 0 (by omega) (by omega), S.size]
    show Result.ok (sliced a 0 0 c S.k) W = _
    unfold sliced
    rw [h.addr0]
    simp
  · obtain ⟨a', c', hv, h1, h2, hc⟩ := h
    simp only [Value.slice.injEq] at hv
    obtain ⟨rfl, _, rfl⟩ := hv
    refine ⟨a, c, rfl, Nat.zero_le _, h2, hc.imp id ?_⟩
    rintro ⟨g, o, ha, hF, hg, ht, hj⟩
    exact ⟨g, o, ha, hF, hg, ht, by intro j u hu; simp [all] at hu⟩
theorem Sl.three (h : Sl S F w (.slice a n c) l) {i : Nat} (hi : i ≤ n) : ∃ x, ∀ W : World, (Instr.sliceAt S.t (.slice a n c) (some (.int .i64 0)) (some (.int .i64 (i : Int))) (some (.int .i64 (n : Int)))).run P W = .ok x W := by
  obtain ⟨_, h1, h2⟩ := h.cap
  refine ⟨sliced a 0 i n S.k, fun W => ?_⟩
  rw [run_sliceAt_slice (P := P) W S.t _ _ _ _ S.elem, run_slice_lhm (P := P) W S.t _ _ _ S.elem .i64 .i64 .i64 0 (i : Int) (n : Int) (by omega) (by omega) (by omega) (by omega), S.size]
  rfl
/-- append where there is room -/
theorem Sl.appIn {tx : TypeId} {x : Value} {m : List α} (ty : TypeId) (h : Sl S F w (.slice a n c) l) (hs : Go.Src P S.k tx x m.length (all S m) w) (hr : n + m.length ≤ c) :
    ∃ w', (Builtin.append_ #[S.t, tx] ty #[.slice a n c, x]).run P w = .ok (.slice a (n + m.length) c) w' ∧ Sl S F w' (.slice a (n + m.length) c) (l ++ m) ∧ Disk.Touch F w w' := by
  obtain ⟨i0, hi, hz0, hz1, hz2⟩ := info_parts S.info
  obtain ⟨a', c', hv, h1, h2, hc⟩ := h
  simp only [Value.slice.injEq] at hv
  obtain ⟨rfl, rfl, rfl⟩ := hv
  rw [← hz1] at hs
  rcases hc with rfl | ⟨g, o, rfl, hF, hg, ht, hj⟩
  · have hl : l = [] := List.eq_nil_of_length_eq_zero (by omega)
    have hm : m = [] := List.eq_nil_of_length_eq_zero (by omega)
    subst hl hm
    exact ⟨_, run_append_nothing w S.t tx ty S.e i0 S.under hi a 0 0 (Nat.le_refl _) x hs, ⟨a, 0, rfl, Nat.le_refl _, Nat.zero_le _, .inl rfl⟩, Disk.Touch.refl _ _⟩
  · have hml := all_len S m
    have hlen : (l.length + m.length) * S.k ≤ c * S.k := Nat.mul_le_mul_right _ hr
    rw [Nat.add_mul] at hlen
    have hrun := run_append_room_src (P := P) w S.t tx ty S.e i0 S.under hi g o l.length c x m.length (all S m) hs hr
      (fun j hj' => by rw [hz1, Nat.add_assoc]; exact (ht _ (by omega)).1) (fun j hj' => by rw [hz1, Nat.add_assoc]; exact (ht _ (by omega)).2)
    rw [hz1] at hrun
    have hsz : w.heap.size ≤ (w.setCells g (o + l.length * S.k) (all S m)).heap.size := (touch_setCells hF _ _ _).size
    refine ⟨_, hrun, ⟨some ⟨g, o, none⟩, c, by rw [List.length_append], by rw [List.length_append]; exact hr, h2, .inr ⟨g, o, rfl, hF, Nat.lt_of_lt_of_le hg hsz, fun j hj' => ⟨World.isSome_setCells g _ _ _ _ (ht j hj').1, by rw [World.frozen?_setCells]; exact (ht j hj').2⟩, fun j u hu => ?_⟩⟩, touch_setCells hF _ _ _⟩
    have hll := all_len S l
    rw [all_app] at hu
    by_cases hjl : j < l.length * S.k
    · rw [List.getElem?_append_left (by rw [hll]; exact hjl)] at hu
      rw [World.cell?_setCells_out g _ _ _ _ (fun _ _ => .inl (by show o + j < _; omega))]
      exact hj j u hu
    · rw [List.getElem?_append_right (by rw [hll]; omega), hll] at hu
      obtain ⟨hlt, he⟩ := List.getElem?_eq_some_iff.1 hu
      have hin := World.cell?_setCells_in g (all S m) (o + l.length * S.k) w (fun i hi' => by rw [Nat.add_assoc]; exact (ht _ (by omega)).1) (j - l.length * S.k) hlt
      rw [show o + l.length * S.k + (j - l.length * S.k) = o + j from by omega] at hin
      rw [hin, he]
/-- what lies behind is cleared -/
theorem Sl.clear (ty : TypeId) (hz : ∀ w, (zeroValue S.e).run P w = .ok S.zero w) (h1z : ∀ v ∈ S.zero.cells.toList, v.oneCell' = true) (h : Sl S F w (.slice a n c) l) {m : Nat} (hn : n ≤ m) (hm : m ≤ c) :
    ∃ x w', (∀ W : World, (Instr.sliceAt S.t (.slice a n c) (some (.int .i64 (n : Int))) (some (.int .i64 (m : Int))) none).run P W = .ok x W) ∧ (Builtin.clear_ #[S.t] ty #[x]).run P w = .ok (.tuple #[]) w' ∧ Sl S F w' (.slice a n c) l ∧ Disk.Touch F w w' := by
  have hcap := h.cap
  have hrun : ∀ W : World, (Instr.sliceAt S.t (.slice a n c) (some (.int .i64 (n : Int))) (some (.int .i64 (m : Int))) none).run P W = .ok (sliced a n m c S.k) W := fun W => by
    rw [run_sliceAt_slice (P := P) W S.t _ _ _ _ S.elem, run_slice_lh (P := P) W S.t _ _ _ S.elem .i64 .i64 (n : Int) (m : Int) (by omega) (by omega) (by omega), S.size]
    rfl
  by_cases h0 : m = n
  · subst h0
    refine ⟨_, w, hrun, ?_, h, Disk.Touch.refl _ _⟩
    unfold sliced
    rw [Nat.sub_self]
    generalize (if c = m then a else a.map (·.add (m * S.k))) = b
    cases b <;> simp [Builtin.clear_, run_underlying S.under]
  · obtain ⟨a', c', hv, h1, h2, hc⟩ := id h
    simp only [Value.slice.injEq] at hv
    obtain ⟨rfl, rfl, rfl⟩ := hv
    rcases hc with rfl | ⟨g, o, rfl, hF, hg, ht, hj⟩
    · omega
    · have hsl : sliced (some ⟨g, o, none⟩) l.length m c S.k = .slice (some ⟨g, o + l.length * S.k, none⟩) (m - l.length) (c - l.length) := by
        unfold sliced
        rw [if_neg (by omega), Option.map_some, Addr.add_mid]
      obtain ⟨zs, hzs⟩ : ∃ zs, zs = (Builtin.zeroCells S.zero.cells (m - l.length)).toList := ⟨_, rfl⟩
      have hzl : zs.length = (m - l.length) * S.k := by rw [hzs, Array.length_toList, size_zeroCells, S.zk]
      have hz1 : ∀ v ∈ zs, v.oneCell' = true := by
        intro v hv
        rw [hzs] at hv
        unfold Builtin.zeroCells at hv
        rw [Array.toList_map, List.mem_map] at hv
        obtain ⟨i, _, rfl⟩ := hv
        have hlt : i % S.zero.cells.size < S.zero.cells.size := Nat.mod_lt _ (by rw [S.zk]; exact S.kpos)
        rw [getElem!_pos S.zero.cells _ hlt]
        exact h1z _ (Array.mem_toList_iff.2 (Array.getElem_mem hlt))
      have hmul : l.length * S.k + (m - l.length) * S.k ≤ c * S.k := by
        rw [← Nat.add_mul]
        exact Nat.mul_le_mul_right _ (by omega)
      have hst := run_storeCells_cells (P := P) g (o + l.length * S.k) zs 0 w (fun j hj' => by rw [Nat.add_zero, Nat.add_assoc]; exact (ht _ (by omega)).1) (fun j hj' => by rw [Nat.add_zero, Nat.add_assoc]; exact (ht _ (by omega)).2) hz1
      simp only [Nat.add_zero] at hst
      have hsz := (touch_setCells hF zs (o + l.length * S.k) w).size
      refine ⟨_, w.setCells g (o + l.length * S.k) zs, hrun, ?_, ⟨some ⟨g, o, none⟩, c, rfl, h1, h2, .inr ⟨g, o, rfl, hF, Nat.lt_of_lt_of_le hg hsz, fun j hj' => ⟨World.isSome_setCells g _ _ _ _ (ht j hj').1, by rw [World.frozen?_setCells]; exact (ht j hj').2⟩, fun j u hu => ?_⟩⟩, touch_setCells hF _ _ _⟩
      · rw [hsl]
        obtain ⟨d, hd⟩ : ∃ d, m - l.length = d + 1 := ⟨m - l.length - 1, by omega⟩
        rw [hd] at hzs ⊢
        simp [Builtin.clear_, run_underlying S.under, hz, ← hzs, hst]
      · have hjl := (List.getElem?_eq_some_iff.1 hu).1
        rw [all_len] at hjl
        rw [World.cell?_setCells_out g _ _ _ _ (fun _ _ => .inl (by show o + j < _; omega))]
        exact hj j u hu
end

end Go.Proofs.Ytgohpompgiljiaa.Sl

namespace Go.Proofs.Ytgohpompgiljiaa.Seq
open Go.RowKit

set_option maxRecDepth 100000 in
/-- bytes -/
def byteS : Shp Try.prog UInt8 where
  t := 55
  e := 5
  k := 1
  zero := .int .u8 0
  bytes := 1
  cells := fun b => [.int .u8 (b.toNat : Int)]
  under := Try.underlying55
  info := by kernel_rfl
  zk := rfl
  kpos := by decide
  len := fun _ => rfl
  one := fun _ => one_of rfl
  small := by decide
  elem := by kernel_rfl
  size := fun _ => by kernel_rfl
set_option maxRecDepth 100000 in
/-- numbers of 64 bits -/
def u64S : Shp Try.prog Nat where
  t := 35
  e := 27
  k := 1
  zero := .int .u64 0
  bytes := 8
  cells := fun n => [.int .u64 (n : Int)]
  under := Try.underlying35
  info := by kernel_rfl
  zk := rfl
  kpos := by decide
  len := fun _ => rfl
  one := fun _ => one_of rfl
  small := by decide
  elem := by kernel_rfl
  size := fun _ => by kernel_rfl
def recC (x : Nat × ByteArray) : List Value := [.int .u64 (x.1 : Int), .string x.2]
set_option maxRecDepth 100000 in
/-- a log's records -/
def recS : Shp Try.prog (Nat × ByteArray) where
  t := 62
  e := 79
  k := 2
  zero := .agg #[.int .u64 0, .string ⟨#[]⟩]
  bytes := 24
  cells := recC
  under := Try.underlying62
  info := by kernel_rfl
  zk := rfl
  kpos := by decide
  len := fun _ => rfl
  one := fun x => by
    intro u hu
    simp only [recC, List.mem_cons, List.not_mem_nil, or_false] at hu
    rcases hu with rfl | rfl <;> rfl
  small := by decide
  elem := by kernel_rfl
  size := fun _ => by kernel_rfl
theorem all_byte (l : List UInt8) : all byteS l = Lib.byteCells l := by
  induction l with
  | nil => rfl
  | cons b l ih => rw [all_cons, ih]; rfl

end Go.Proofs.Ytgohpompgiljiaa.Seq
namespace Go.Proofs.Ytgohpompgiljiaa.Sl
open Go.RowKit
open Go.Proofs.Ytgohpompgiljiaa.Disk (grew)
open Go.Proofs.Ytgohpompgiljiaa.Seq (Shp all)
section
variable {P : Program} {α : Type} {S : Shp P α} {F : Nat → Prop} {w : World} {v : Value} {l : List α} {ops : Array Oper} {rest : List Oper} {o : Oper} {a : Act} {Q : Exit → Act → World → Prop} {K : Act → World → Prop} {E : Prop}
theorem wp_app {tx : TypeId} {x : Value} {m : List α} (s d : Operand) (ho : o.op = .call { callee := .builtin .append, args := #[s, d], argTypes := #[S.t, tx] }) (h : Sl S F w v l) (hs : Go.Src P S.k tx x m.length (all S m) w) (hn : l.length + m.length ≤ 1000000000)
    (h1 : a.eval s = v) (h2 : a.eval d = x) (hk : ∀ v' w', Sl S (grew F w w') w' v' (l ++ m) → Disk.Touch F w w' → K (a.put o.dst v') w') : o.wp P a w K Q := by
  obtain ⟨v', w', hr, k1, k2⟩ := h.app o.type hs hn
  unfold Oper.wp execOp
  simp only [ho, resolve, invoke, builtin, Sem.run_bind, Sem.run_pure, Result.andThen_ok, List.map_toArray, List.map_cons, List.map_nil, h1, h2, hr]
  exact hk v' w' k1 k2
theorem wpList_app {tx : TypeId} {x : Value} {m : List α} (hgd : o.guard = none) (s d : Operand) (ho : o.op = .call { callee := .builtin .append, args := #[s, d], argTypes := #[S.t, tx] }) (h : Sl S F w v l) (hs : Go.Src P S.k tx x m.length (all S m) w) (hn : l.length + m.length ≤ 1000000000)
    (h1 : a.eval s = v) (h2 : a.eval d = x) (hk : ∀ v' w', Sl S (grew F w w') w' v' (l ++ m) → Disk.Touch F w w' → wpList P ops Q rest (a.put o.dst v') w') : wpList P ops Q (o :: rest) a w :=
  wpList_plain hgd fun _ hK => wp_app s d ho h hs hn h1 h2 fun v' w' k1 k2 => hK _ _ (hk v' w' k1 k2)
theorem step_app {tx : TypeId} {x : Value} {m : List α} (hgd : o.guard = none) (s d : Operand) (ho : o.op = .call { callee := .builtin .append, args := #[s, d], argTypes := #[S.t, tx] }) (h : Sl S F w v l) (hs : Go.Src P S.k tx x m.length (all S m) w) (hn : l.length + m.length ≤ 1000000000)
    (h1 : a.eval s = v) (h2 : a.eval d = x) (hk : ∀ v' w', Sl S (grew F w w') w' v' (l ++ m) → Disk.Touch F w w' → K (a.put o.dst v') w') : if Region.wanted o (yielded ops a.tmps) = true then Oper.wp P o a w K Q else E := by
  have hw : Region.wanted o (yielded ops a.tmps) = true := by simp [Region.wanted, hgd]
  rw [if_pos hw]
  exact wp_app s d ho h hs hn h1 h2 hk
/-- one that was just made, as append's second argument -/
theorem src_one (S : Shp P α) (W : World) (x : α) : Go.Src P S.k S.t (.slice (some ⟨W.heap.size, 0, none⟩) 1 1) 1 (all S [x]) (W.alloc (.cells (S.cells x).toArray S.e)) := by
  have e : all S [x] = S.cells x := by simp [all]
  rw [e]
  refine Src.ofSlice _ S.under _ 1 1 _ (by rw [S.len]; omega) (fun j u hu => ?_) (S.one x)
  rw [Addr.add_lit, Nat.zero_add, cell_of_row _ _ _ _ _ _ (heap_alloc_new W _), List.getElem?_toArray]
  exact hu
end
theorem src_str (s : ByteArray) (w : World) : Go.Src Try.prog 1 9 (.string s) s.data.toList.length (all Seq.byteS s.data.toList) w := by
  rw [Seq.all_byte]
  have h := Src.ofString (P := Try.prog) w (tx := 9) Try.underlying9 s
  exact h

end Go.Proofs.Ytgohpompgiljiaa.Sl
