/-
  Walks: Copy.
-/
import Derived.Shelf.SlMaps.Clone
import Derived.Maps.AppendAt
import Derived.OwnWalk
import Derived.Test.YtgohpompgiljiaaZ30
namespace Go.Proofs.Ytgohpompgiljiaa.Disk
open Go.RowKit
attribute [local go_sem ↓] Go.wp_at_zero Go.wp_at_succ

theorem wpList_append_run {P : Program} {w : World} {ops : Array Oper} {rest : List Oper} {o : Oper} {a : Act} {Q : Exit → Act → World → Prop} (hgd : o.guard = none) (s x : Operand) (t : TypeId)
    (ho : o.op = .call { callee := .builtin .append, args := #[s, x], argTypes := #[t, t] }) (ty : TypeId) (hty : o.type = ty) (vs vx v' : Value) (w' : World) (hs : a.eval s = vs) (hx : a.eval x = vx)
    (hr : (Builtin.append_ #[t, t] ty #[vs, vx]).run P w = .ok v' w') (h : wpList P ops Q rest (a.put o.dst v') w') : wpList P ops Q (o :: rest) a w := by
  subst hty
  refine wpList_plain hgd fun K hK => ?_
  unfold Oper.wp execOp
  simp only [ho, resolve, invoke, builtin, Sem.run_bind, Sem.run_pure, Result.andThen_ok, List.map_toArray, List.map_cons, List.map_nil, hs, hx, hr]
  exact hK _ _ h

/-- v is a new row with these cells -/
def CloneOf (e : TypeId) (size n : Nat) (xs : List Value) (w : World) (v : Value) (w' : World) : Prop :=
  w'.ownsRow 0 e size v n xs ∧ (∀ b, v.ownBlock = some b → w.heap.size ≤ b ∧ b < w'.heap.size) ∧ Below w.heap.size w w'

set_option maxRecDepth 100000 in
theorem clone_own {w : World} {t e : TypeId} {i : TypeInfo} {z : Value} {size bytes n cap g : Nat} {xs : List Value} (ht : Try.prog.underlying t = some (.slice e)) (hi : Try.prog.info? e = some i) (hz : i.zero = some z) (hs : i.size = size) (hb : i.bytes = bytes) (hzs : z.cells.size = size) (hsz : 0 < size)
    (h : w.ownsRow 0 e size (.slice (some ⟨g, 0, none⟩) n cap) n xs) (h1 : ∀ u ∈ xs, u.oneCell' = true) (hn : n ≤ 1000000000) (hby : n * bytes ≤ 140737488355328) (ty : TypeId) :
    ∃ v' w', (Builtin.append_ #[t, t] ty #[.slice (some ⟨w.heap.size, 0, none⟩) 0 0, .slice (some ⟨g, 0, none⟩) n cap]).run Try.prog (w.alloc (.cells #[] e)) = .ok v' w' ∧ CloneOf e size n xs w v' w' := by
  have ho := World.ownsRow_made w (base := w.heap.size) (e := e) (size := size) #[] 0 (Nat.le_refl _) (Nat.zero_le _) (by simp)
  have hc : ∀ j u, xs[j]? = some u → (w.alloc (.cells #[] e)).cell? ((⟨g, 0, none⟩ : Addr).add j) = some u := (h.alloc (.cells #[] e)).cells rfl
  obtain ⟨v', w', hr, h2, h3, _, h5⟩ := run_append_own_at (P := Try.prog) (w.alloc (.cells #[] e)) w.heap.size t ty e i z size bytes ht hi hz hs hb hzs hsz _ 0 [] ho ⟨g, 0, none⟩ n cap xs h.1 hc h1 (by unfold maxLen; omega) (by simpa using hby) (by simp)
  have hB : Below w.heap.size w w' := ((Below.refl _ _).alloc (Nat.le_refl _) _).grown h3 (by simp) (fun k hk => by simp [Value.ownBlock] at hk; omega)
  rw [Nat.zero_add, List.nil_append] at h2
  refine ⟨v', w', hr, ⟨h2.1, ?_⟩, fun b hb => h2.lt b hb, hB⟩
  rcases h2.2 with h4 | ⟨g', c', cur, h4, h6, rest⟩
  · exact .inl h4
  · exact .inr ⟨g', c', cur, h4, Nat.zero_le _, rest⟩

theorem CloneOf.form {e : TypeId} {size n : Nat} {xs : List Value} {w w' : World} {v : Value} (h : CloneOf e size n xs w v w') : ∃ a c, v = .slice a n c := by
  rcases h.1.2 with ⟨h1, h2⟩ | ⟨g, c, _, h1, _⟩
  · exact ⟨none, 0, by rw [h1, h2]⟩
  · exact ⟨_, _, h1⟩
theorem flat_one (ss : List (List UInt8)) : ∀ v ∈ flat ss, v.oneCell' = true := by
  rw [flat_eq]; exact byteCells_one _
theorem flatW_one (l : List (Nat × List UInt8)) : ∀ v ∈ flatW l, v.oneCell' = true := by
  intro v hv
  simp only [flatW, List.mem_flatMap] at hv
  obtain ⟨x, _, hv⟩ := hv
  exact cellsW_one x v hv

theorem CloneOf.nil (w : World) (e : TypeId) (size : Nat) : CloneOf e size 0 [] w (.slice none 0 0) w := ⟨World.ownsRow_nil _ _ _ _, by simp [Value.ownBlock], Below.refl _ _⟩
/-- a new map that tells the same -/
def CloneMap (l : List (Nat × List UInt8)) (w : World) (v : Value) (w' : World) : Prop :=
  Newest w' v l ∧ (∀ b, v = .map (some b) → w.heap.size ≤ b ∧ b < w'.heap.size) ∧ Below w.heap.size w w'
set_option maxRecDepth 100000 in
theorem CloneMap.of {l : List (Nat × List UInt8)} {w : World} {b : Nat} {D : DataW Unit} {es : Array MapEntry} {clock : Nat} (hb : w.heap[b]? = some (.map es clock)) (hown : w.ownsMap Try.prog 3 (plainElem Try.prog 3) b l.length D)
    (hD : ∀ k : Nat, Maps.has D (.int .i64 k) = (newest l k).isSome ∧ ∀ i, newest l k = some i → D.atKey (.int .i64 k) (.lit (.int .i64 0)) = .lit (.int .i64 i)) : CloneMap l w (.map (some w.heap.size)) (w.alloc (.map es clock)) := by
  refine ⟨.inr ⟨w.heap.size, D, rfl, ?_, hD⟩, fun c hc => ?_, (Below.refl _ _).alloc (Nat.le_refl _) _⟩
  · obtain ⟨es', clock', h1, rest⟩ := hown
    rw [hb] at h1
    simp at h1
    obtain ⟨rfl, rfl⟩ := h1
    exact ⟨es, clock, heap_alloc_new _ _, rest⟩
  · cases hc
    exact ⟨Nat.le_refl _, by simp⟩

/-- while a disk is copied it stays as it is -/
def CopyS (w : World) (p gs sc : Nat) (lv mv : Value) (d : D) (w' : World) : Prop := Lay w' p gs sc lv mv d ∧ Below w.heap.size w w'
theorem Lay.later {w w' : World} {p gs sc : Nat} {lv mv : Value} {d : D} (L : Lay w p gs sc lv mv d) (t : Below w.heap.size w w') : Lay w' p gs sc lv mv d := by
  refine ⟨(t.block p (Array.getElem?_eq_some_iff.1 L.head).1).trans L.head, ownsRow_far L.sure fun b hb => t.block b (L.sure.lt b hb).2, ownsRow_far L.loose fun b hb => t.block b (L.loose.lt b hb).2, L.newest.far fun b hb => t.block b ?_⟩
  rcases L.newest with ⟨h1, _⟩ | ⟨b', D, h1, h2, _⟩
  · rw [h1] at hb; cases hb
  · rw [h1] at hb; cases hb; exact h2.lt
theorem CopyS.call {w X w' : World} {p gs sc : Nat} {lv mv : Value} {d : D} (h : CopyS w p gs sc lv mv d X) (t : Below X.heap.size X w') : CopyS w p gs sc lv mv d w' :=
  ⟨h.1.later t, h.2.trans (t.mono h.2.size)⟩
theorem CopyS.all {w X : World} {p gs sc : Nat} {lv mv : Value} {d : D} (h : CopyS w p gs sc lv mv d X) :
    X.cell? ⟨p, 0, none⟩ = some (.slice (some ⟨gs, 0, none⟩) d.sure.length sc) ∧ X.cell? ⟨p, 1, none⟩ = some lv ∧ X.cell? ⟨p, 2, none⟩ = some mv ∧ X.cell? ⟨p, 3, none⟩ = some (.int .i64 d.fuse) ∧ CopyS w p gs sc lv mv d X :=
  ⟨h.1.cell0, h.1.cell1, h.1.cell2, h.1.cell3, h⟩

theorem copy_end {w X1 w1 w2 w3 : World} {d : D} {a1 a2 : Option Addr} {c1 c2 : Nat} {r : Option Nat} (hok : d.ok) (hb : Below w.heap.size w X1) (h1 : CloneOf 92 128 d.sure.length (flat d.sure) X1 (.slice a1 d.sure.length c1) w1)
    (h2 : CloneOf 94 129 d.loose.length (flatW d.loose) w1 (.slice a2 d.loose.length c2) w2) (h3 : CloneMap d.loose w2 (.map r) w3) :
    Rep (w3.alloc (.cells #[.slice a1 d.sure.length c1, .slice a2 d.loose.length c2, .map r, .int .i64 d.fuse] 84)) w3.heap.size d (Fresh w (w3.alloc (.cells #[.slice a1 d.sure.length c1, .slice a2 d.loose.length c2, .map r, .int .i64 d.fuse] 84))) ∧
      Below w.heap.size w (w3.alloc (.cells #[.slice a1 d.sure.length c1, .slice a2 d.loose.length c2, .map r, .int .i64 d.fuse] 84)) := by
  have z := hb.size
  have z1 := h1.2.2.size
  have z2 := h2.2.2.size
  have z3 := h3.2.2.size
  have one := hok.one
  obtain ⟨g, rfl⟩ : ∃ g, a1 = some ⟨g, 0, none⟩ := by
    rcases h1.1.2 with ⟨_, h0⟩ | ⟨g, cap, cur, hv, _⟩
    · omega
    · simp at hv; exact ⟨g, hv.1⟩
  have hg := h1.2.1 g rfl
  have B3 : Below w2.heap.size w2 (w3.alloc (.cells #[.slice (some ⟨g, 0, none⟩) d.sure.length c1, .slice a2 d.loose.length c2, .map r, .int .i64 d.fuse] 84)) := h3.2.2.alloc z3 _
  have B2 : Below w1.heap.size w1 (w3.alloc (.cells #[.slice (some ⟨g, 0, none⟩) d.sure.length c1, .slice a2 d.loose.length c2, .map r, .int .i64 d.fuse] 84)) := h2.2.2.trans (B3.mono z2)
  have z4 : (w3.alloc (.cells #[.slice (some ⟨g, 0, none⟩) d.sure.length c1, .slice a2 d.loose.length c2, .map r, .int .i64 d.fuse] 84)).heap.size = w3.heap.size + 1 := by simp
  refine ⟨⟨hok, ⟨g, c1, .slice a2 d.loose.length c2, .map r, ⟨heap_alloc_new w3 _, ?_, ?_, ?_⟩, ⟨by omega, by omega⟩, ⟨by omega, by omega⟩, fun b hb => ?_, fun b hb => ?_⟩, fun b hb => hb.2⟩, hb.trans ((h1.2.2.trans (B2.mono z1)).mono z)⟩
  · exact ownsRow_far h1.1 fun b hb => B2.block b (h1.2.1 b hb).2
  · exact ownsRow_far h2.1 fun b hb => B3.block b (h2.2.1 b hb).2
  · exact h3.1.far fun b hb => Below.heap_alloc w3 _ b (h3.2.1 b hb).2
  · have := h2.2.1 b hb
    exact ⟨by omega, by omega⟩
  · have := h3.2.1 b hb
    exact ⟨by omega, by omega⟩

end Go.Proofs.Ytgohpompgiljiaa.Disk
