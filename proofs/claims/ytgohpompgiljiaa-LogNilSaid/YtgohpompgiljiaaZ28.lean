/-
  What a disk is once a write is appended.
-/
import Derived.Test.YtgohpompgiljiaaZ27
namespace Go.Proofs.Ytgohpompgiljiaa.Disk
open Go.RowKit

theorem drew_grown {w : World} (row : Option Nat) : w.grownBy w.drew row := ⟨rfl, rfl, rfl, Nat.le_refl _, fun _ _ _ => rfl⟩
theorem isKeyInt (k : Int) : WideAt.IsKeyLit (.int .i64 k) := by simp [WideAt.IsKeyLit]

theorem alloc_then_set (w : World) (o : Obj) (a : Addr) (v : Value) (h : a.block < w.heap.size) : (w.setCell a v).alloc o = (w.alloc o).setCell a v := by
  refine world_ext ?_ rfl rfl rfl rfl
  apply Array.ext_getElem?
  intro i
  by_cases hi : i = w.heap.size
  · subst hi
    have e : (w.setCell a v).heap.size = w.heap.size := by simp
    have h1 := heap_alloc_new (w.setCell a v) o
    rw [e] at h1
    rw [h1, heap_setCell_other _ _ _ _ (by omega), heap_alloc_new w o]
  · by_cases hlt : i < w.heap.size
    · rw [Below.heap_alloc _ _ i (by simpa using hlt)]
      by_cases ha : i = a.block
      · subst ha
        simp only [World.setCell, Array.getElem?_modify, if_true]
        rw [Below.heap_alloc w o _ hlt]
      · rw [heap_setCell_other _ _ _ _ ha, heap_setCell_other _ _ _ _ ha, Below.heap_alloc w o i hlt]
    · rw [Array.getElem?_eq_none (by simp; omega), Array.getElem?_eq_none (by simp; omega)]

set_option maxRecDepth 100000 in
theorem push_rep {V W3 w1 : World} {p gs sc b : Nat} {lv lv' : Value} {d : D} {D' : DataW Unit} (L : Lay V p gs sc lv (.map (some b)) d) (hok : d.ok) {x : Nat × List UInt8} (hk : x.1 < d.sure.length) (hx : x.2.length = 128)
    (hO3 : W3.ownsMap Try.prog 3 (plainElem Try.prog 3) b (d.loose.length + 1) (D'.put (.int .i64 (x.1 : Int)) (.lit (.int .i64 (d.loose.length : Int))))) (hM : Maps.IsMap D')
    (hD : ∀ k : Nat, Maps.has D' (.int .i64 k) = (newest d.loose k).isSome ∧ ∀ i, newest d.loose k = some i → D'.atKey (.int .i64 k) (.lit (.int .i64 0)) = .lit (.int .i64 i))
    (hG3 : V.grownBy W3 (some b)) (o : Obj) (hG1 : (W3.drew.alloc o).grownBy w1 lv.ownBlock)
    (hown : w1.ownsRow 0 94 129 lv' (d.loose.length + 1) (flatW d.loose ++ cellsW x)) {G : Nat → Prop} (g1 : G p) (g2 : G gs) (g3 : ∀ c, lv'.ownBlock = some c → G c) (g4 : G b) (hlt : ∀ c, G c → c < w1.heap.size) :
    Rep (w1.setCell ⟨p, 1, none⟩ lv') p ⟨d.sure, d.loose ++ [x], d.fuse⟩ G ∧ Touch (fun c => c = p ∨ lv.ownBlock = some c ∨ c = b) V (w1.setCell ⟨p, 1, none⟩ lv') := by
  have hsz : V.heap.size ≤ (W3.drew.alloc o).heap.size := by have := hG3.size; simp; omega
  -- a block that is neither the map's nor the row's
  have far : ∀ c, c < V.heap.size → c ≠ b → lv.ownBlock ≠ some c → w1.heap[c]? = V.heap[c]? := fun c hc h1 h2 => by
    rw [hG1.block c (by omega) (fun e => h2 e.symm), Below.heap_alloc _ _ c (by have := hG3.size; show c < W3.heap.size; omega)]
    exact hG3.block c hc (by simpa using h1)
  have lp : p < V.heap.size := (Array.getElem?_eq_some_iff.1 L.head).1
  have lg : gs < V.heap.size := (L.sure.lt gs rfl).2
  have hp1 := (far p lp (fun e => (L.ne2 rfl).1 e.symm) (fun e => (L.ne1 e).1 rfl)).trans L.head
  have hg1 := far gs lg (fun e => (L.ne2 rfl).2.1 e.symm) (fun e => (L.ne1 e).2 rfl)
  have hb3 : b < W3.heap.size := hO3.lt
  have hb1 : w1.heap[b]? = W3.heap[b]? := by
    rw [hG1.block b (by simp; omega) (fun e => (L.ne2 rfl).2.2 e.symm), Below.heap_alloc _ _ b (by show b < W3.heap.size; exact hb3)]
    rfl
  have hl : (d.loose ++ [x]).length = d.loose.length + 1 := by simp
  have hmap : (w1.setCell ⟨p, 1, none⟩ lv').heap[b]? = W3.heap[b]? := by
    rw [heap_setCell_other _ _ _ _ ((L.ne2 rfl).1)]; exact hb1
  refine ⟨⟨⟨hok.one, hok.most, hok.each, ?_, hok.low, hok.high⟩, ⟨gs, sc, lv', .map (some b), ⟨?_, ?_, ?_, ?_⟩, g1, g2, g3, fun c hc => by cases hc; exact g4⟩, fun c hc => by simpa using hlt c hc⟩, ?_⟩
  · intro y hy
    rcases List.mem_append.1 hy with hy | hy
    · exact hok.there y hy
    · simp at hy; subst hy; exact ⟨hk, hx⟩
  · rw [heap_setCell_same w1 p 1 _ _ lv' hp1]; rfl
  · refine ownsRow_far (w := w1) (ownsRow_far (w' := w1) L.sure fun c hc => ?_) fun c hc => ?_
    · simp [Value.ownBlock] at hc; subst hc; exact hg1
    · simp [Value.ownBlock] at hc; subst hc; exact heap_setCell_other _ _ _ _ (fun e => L.ne e.symm)
  · rw [hl, flatW_snoc]
    refine ownsRow_far hown fun c hc => heap_setCell_other _ _ _ _ ?_
    rintro rfl
    rcases hown.2 with ⟨h1, _⟩ | ⟨g, cap, cur, h1, _, h2, _⟩
    · omega
    · rw [h1] at hc
      simp [Value.ownBlock] at hc
      subst hc
      have := hp1.symm.trans h2
      simp at this
  · refine .inr ⟨b, D'.put (.int .i64 (x.1 : Int)) (.lit (.int .i64 (d.loose.length : Int))), rfl, ?_, ?_⟩
    · rw [hl]
      obtain ⟨es, clock, h1, rest⟩ := hO3
      exact ⟨es, clock, hmap.trans h1, rest⟩
    · intro k
      show _ = (newest (d.loose ++ [(x.1, x.2)]) k).isSome ∧ ∀ i, newest (d.loose ++ [(x.1, x.2)]) k = some i → _
      rw [newest_snoc]
      by_cases e : x.1 = k
      · subst e
        rw [if_pos rfl]
        refine ⟨Maps.has_put_same hM (isKeyInt _) _, fun i hi => ?_⟩
        simp at hi
        subst hi
        exact Maps.atKey_put_same hM (isKeyInt _) _ _
      · rw [if_neg e]
        have ne : (Lit.int .i64 (k : Int)) ≠ .int .i64 (x.1 : Int) := by simp; omega
        obtain ⟨h1, h2⟩ := hD k
        exact ⟨(Maps.has_put_other ne _).trans h1, fun i hi => (Maps.atKey_put_other ne _ _).trans (h2 i hi)⟩
  · refine ⟨by rw [show (w1.setCell ⟨p, 1, none⟩ lv').os = w1.os from rfl, hG1.os]; exact hG3.os, by rw [show (w1.setCell ⟨p, 1, none⟩ lv').tape = w1.tape from rfl, hG1.tape]; exact hG3.tape, by rw [show (w1.setCell ⟨p, 1, none⟩ lv').output = w1.output from rfl, hG1.output]; exact hG3.output, by rw [World.size_setCell]; have := hG1.size; omega, fun c hc hn => ?_⟩
    rw [heap_setCell_other _ _ _ _ (fun e => hn (.inl e))]
    exact far c hc (fun e => hn (.inr (.inr e))) (fun e => hn (.inr (.inl e)))

set_option maxRecDepth 100000 in
/-- .. as the caller of Write has it -/
theorem push_end {w V W3 w1 : World} {p gs sc b g cap' : Nat} {lv : Value} {d : D} {D' : DataW Unit} {F : Nat → Prop} (L : Lay V p gs sc lv (.map (some b)) d) (hok : d.ok) {x : Nat × List UInt8} (hk : x.1 < d.sure.length) (hx : x.2.length = 128)
    (hO3 : W3.ownsMap Try.prog 3 (plainElem Try.prog 3) b (d.loose.length + 1) (D'.put (.int .i64 (x.1 : Int)) (.lit (.int .i64 (d.loose.length : Int))))) (hM : Maps.IsMap D')
    (hD : ∀ k : Nat, Maps.has D' (.int .i64 k) = (newest d.loose k).isSome ∧ ∀ i, newest d.loose k = some i → D'.atKey (.int .i64 k) (.lit (.int .i64 0)) = .lit (.int .i64 i))
    (hG3 : V.grownBy W3 (some b)) (o : Obj) (hG1 : (W3.drew.alloc o).grownBy w1 lv.ownBlock)
    (hown : w1.ownsRow 0 94 129 (.slice (some ⟨g, 0, none⟩) (d.loose.length + 1) cap') (d.loose.length + 1) (flatW d.loose ++ cellsW x)) (hat : lv.ownBlock = some g ∨ g = (W3.drew.alloc o).heap.size) (hgl : g < w1.heap.size)
    (T : Touch F w V) (bb : ∀ c, F c → c < w.heap.size) (f1 : F p) (f2 : F gs) (f3 : ∀ c, lv.ownBlock = some c → F c) (f4 : F b ∨ w.heap.size ≤ b) :
    Rep (w1.setCell ⟨p, 1, none⟩ (.slice (some ⟨g, 0, none⟩) (d.loose.length + 1) cap')) p ⟨d.sure, d.loose ++ [x], d.fuse⟩ (grew F w (w1.setCell ⟨p, 1, none⟩ (.slice (some ⟨g, 0, none⟩) (d.loose.length + 1) cap'))) ∧
      Touch F w (w1.setCell ⟨p, 1, none⟩ (.slice (some ⟨g, 0, none⟩) (d.loose.length + 1) cap')) := by
  have s1 := T.size
  have s2 := hG3.size
  have s3 := hG1.size
  have s4 : (W3.drew.alloc o).heap.size = W3.heap.size + 1 := by simp
  have s5 : (w1.setCell ⟨p, 1, none⟩ (.slice (some ⟨g, 0, none⟩) (d.loose.length + 1) cap')).heap.size = w1.heap.size := by simp
  have hb := hO3.lt
  have hG : ∀ c, grew F w (w1.setCell ⟨p, 1, none⟩ (.slice (some ⟨g, 0, none⟩) (d.loose.length + 1) cap')) c → c < w1.heap.size := by
    intro c hc
    rw [← s5]
    exact grew_lt bb (by rw [s5]; omega) c hc
  obtain ⟨h1, h2⟩ := push_rep L hok hk hx hO3 hM hD hG3 o hG1 hown (G := grew F w (w1.setCell ⟨p, 1, none⟩ (.slice (some ⟨g, 0, none⟩) (d.loose.length + 1) cap'))) (.inl f1) (.inl f2)
    (fun c hc => by
      simp [Value.ownBlock] at hc
      subst hc
      rcases hat with h | h
      · exact .inl (f3 _ h)
      · exact .inr ⟨by omega, by rw [s5]; exact hgl⟩)
    (by
      rcases f4 with h | h
      · exact .inl h
      · exact .inr ⟨h, by rw [s5]; omega⟩) hG
  refine ⟨h1, T.trans h2 fun c hc hg => ?_⟩
  rcases hg with rfl | hg | rfl
  · exact f1
  · exact f3 c hg
  · rcases f4 with h | h
    · exact h
    · omega
theorem Rep.burnt_end {w w2 w3 : World} {p : Nat} {d : D} {F : Nat → Prop} {k : Nat} {t : List UInt8} (h : Rep w3 p ((⟨d.sure, d.loose ++ [(k, t)], d.fuse⟩ : D).setFuse (burnt d.fuse)) (grew F w w2)) (T : Touch F w w2) (T2 : Touch (grew F w w2) w2 w3) :
    Rep w3 p (d.write k t) (grew F w w3) ∧ Touch F w w3 := by
  have s := T2.size
  have s0 := T.size
  refine ⟨Rep.mono (F := grew F w w2) h (fun c hc => ?_) (fun c hc => ?_), T.step T2⟩
  · rcases hc with hc | hc
    · exact .inl hc
    · exact .inr ⟨hc.1, by omega⟩
  · rcases hc with hc | hc
    · exact h.below c (.inl hc)
    · exact hc.2

set_option maxRecDepth 100000 in
/-- a map is made for a disk without loose writes -/
theorem rep_map {W : World} {p gs sc : Nat} {lv : Value} {d : D} (L : Lay W p gs sc lv (.map none) d) :
    Lay ((W.alloc (.map #[] 0)).setCell ⟨p, 2, none⟩ (.map (some W.heap.size))) p gs sc lv (.map (some W.heap.size)) d := by
  have lp : p < W.heap.size := (Array.getElem?_eq_some_iff.1 L.head).1
  have hd : d.loose = [] := by
    rcases L.newest with ⟨_, h⟩ | ⟨b, _, h, _⟩
    · exact h
    · cases h
  have hp : (W.alloc (.map #[] 0)).heap[p]? = _ := (Below.heap_alloc W _ p lp).trans L.head
  refine ⟨?_, ?_, ?_, ?_⟩
  · rw [heap_setCell_same _ p 2 _ _ _ hp]; rfl
  · refine ownsRow_far L.sure fun c hc => ?_
    simp [Value.ownBlock] at hc
    subst hc
    rw [heap_setCell_other _ _ _ _ (fun e => L.ne e.symm)]
    exact Below.heap_alloc W _ gs (L.sure.lt gs rfl).2
  · refine ownsRow_far L.loose fun c hc => ?_
    rw [heap_setCell_other _ _ _ _ (L.ne1 hc).1]
    exact Below.heap_alloc W _ c (L.loose.lt c hc).2
  · refine .inr ⟨W.heap.size, .map [], rfl, ?_, ?_⟩
    · rw [hd]
      obtain ⟨es, clock, h1, rest⟩ := World.ownsMap_made (H := Unit) W Try.prog 3 (plainElem Try.prog 3)
      exact ⟨es, clock, (heap_setCell_other _ _ _ _ (by show W.heap.size ≠ p; omega)).trans h1, rest⟩
    · intro k
      rw [hd]
      exact ⟨rfl, by simp [newest]⟩

end Go.Proofs.Ytgohpompgiljiaa.Disk
