/- Records in memory. -/
import Derived.Test.YtfcibccipkokoaaCM
import Derived.WalkKit
import Derived.WalkSpells
import Derived.WalkLawsBesides
import Derived.Lib.Hide
import Derived.Laws.Rows
import Derived.Laws.Tables
import Derived.BigQuiet
import Derived.Deep.QuietTactic
import Derived.Deep.DrawnRows
namespace Go.Proofs.Ytfcibccipkokoaa.Rec
open Go.RowKit
attribute [local go_sem ↓] Go.wp_at_zero Go.wp_at_succ

theorem below_new (w : World) (o : Obj) : Below w.heap.size w (w.alloc o) := (Below.refl _ _).alloc (Nat.le_refl _) o

structure DiAt (w : World) (x o : Nat) (d : Di) : Prop where
  c0 : w.cell? ⟨x, o, none⟩ = some (.int .u32 (d.page : Int))
  c1 : w.cell? ⟨x, o + 1, none⟩ = some (.int .u64 (d.lsn : Int))
structure AcAt (w : World) (x o : Nat) (d : Ac) : Prop where
  c0 : w.cell? ⟨x, o, none⟩ = some (.int .u64 (d.tx : Int))
  c1 : w.cell? ⟨x, o + 1, none⟩ = some (.int .u64 (d.first : Int))
  c2 : w.cell? ⟨x, o + 2, none⟩ = some (.int .u64 (d.last : Int))
  c3 : w.cell? ⟨x, o + 3, none⟩ = some (.int .u64 (d.next : Int))
theorem DiAt.far {w w' : World} {x o : Nat} {c : Di} (h : DiAt w x o c) (t : w'.heap[x]? = w.heap[x]?) : DiAt w' x o c := by
  have e : ∀ j, w'.cell? ⟨x, j, none⟩ = w.cell? ⟨x, j, none⟩ := fun j => World.cell?_of_block t
  exact ⟨(e _).trans h.c0, (e _).trans h.c1⟩
theorem AcAt.far {w w' : World} {x o : Nat} {c : Ac} (h : AcAt w x o c) (t : w'.heap[x]? = w.heap[x]?) : AcAt w' x o c := by
  have e : ∀ j, w'.cell? ⟨x, j, none⟩ = w.cell? ⟨x, j, none⟩ := fun j => World.cell?_of_block t
  exact ⟨(e _).trans h.c0, (e _).trans h.c1, (e _).trans h.c2, (e _).trans h.c3⟩
/-- a slice of pages, of those who go on -/
def IsDi (w : World) (v : Value) (l : List Di) : Prop :=
  ∃ a cap, v = .slice a l.length cap ∧ (a = none → cap = 0) ∧ ∀ i d, l[i]? = some d → ∃ x o, a = some ⟨x, o, none⟩ ∧ DiAt w x (o + i * 2) d
def IsAc (w : World) (v : Value) (l : List Ac) : Prop :=
  ∃ a cap, v = .slice a l.length cap ∧ (a = none → cap = 0) ∧ ∀ i d, l[i]? = some d → ∃ x o, a = some ⟨x, o, none⟩ ∧ AcAt w x (o + i * 4) d
theorem IsDi.nil (w : World) : IsDi w (.slice none 0 0) [] := ⟨none, 0, rfl, fun _ => rfl, fun i d h => by simp at h⟩
theorem IsAc.nil (w : World) : IsAc w (.slice none 0 0) [] := ⟨none, 0, rfl, fun _ => rfl, fun i d h => by simp at h⟩
theorem IsDi.later {w w' : World} {v : Value} {l : List Di} (h : IsDi w v l) (t : Below w.heap.size w w') : IsDi w' v l := by
  obtain ⟨a, cap, hv, hn, hc⟩ := h
  refine ⟨a, cap, hv, hn, fun i c hi => ?_⟩
  obtain ⟨x, o, ha, h1⟩ := hc i c hi
  exact ⟨x, o, ha, h1.far (t.block x (block_lt_of_cell h1.c0))⟩
theorem IsAc.later {w w' : World} {v : Value} {l : List Ac} (h : IsAc w v l) (t : Below w.heap.size w w') : IsAc w' v l := by
  obtain ⟨a, cap, hv, hn, hc⟩ := h
  refine ⟨a, cap, hv, hn, fun i c hi => ?_⟩
  obtain ⟨x, o, ha, h1⟩ := hc i c hi
  exact ⟨x, o, ha, h1.far (t.block x (block_lt_of_cell h1.c0))⟩
theorem IsDi.at {w : World} {v : Value} {l : List Di} (h : IsDi w v l) {k : Nat} (hk : k < l.length) : ∃ x o cap, v = .slice (some ⟨x, o, none⟩) l.length cap ∧ DiAt w x (o + k * 2) l[k] := by
  obtain ⟨a, cap, hv, _, hc⟩ := h
  obtain ⟨x, o, ha, h1⟩ := hc k l[k] (List.getElem?_eq_getElem hk)
  exact ⟨x, o, cap, by rw [hv, ha], h1⟩
theorem IsAc.at {w : World} {v : Value} {l : List Ac} (h : IsAc w v l) {k : Nat} (hk : k < l.length) : ∃ x o cap, v = .slice (some ⟨x, o, none⟩) l.length cap ∧ AcAt w x (o + k * 4) l[k] := by
  obtain ⟨a, cap, hv, _, hc⟩ := h
  obtain ⟨x, o, ha, h1⟩ := hc k l[k] (List.getElem?_eq_getElem hk)
  exact ⟨x, o, cap, by rw [hv, ha], h1⟩
theorem IsDi.form {w : World} {v : Value} {l : List Di} (h : IsDi w v l) : ∃ a cap, v = .slice a l.length cap := by
  obtain ⟨a, cap, hv, _, _⟩ := h
  exact ⟨a, cap, hv⟩
theorem IsAc.form {w : World} {v : Value} {l : List Ac} (h : IsAc w v l) : ∃ a cap, v = .slice a l.length cap := by
  obtain ⟨a, cap, hv, _, _⟩ := h
  exact ⟨a, cap, hv⟩

/-- a record's cells -/
def recC (r : Rc) (d t : Value) : Array Value := #[.int .u8 (r.kind : Int), .int .u64 (r.tx : Int), .int .u64 (r.prev : Int), .int .u32 (r.page : Int), .int .u16 (r.slot : Int), .int .u64 (r.next : Int), .int .u64 (r.number : Int), .string r.body, d, t, .int .u64 (r.ttx : Int), .int .u64 (r.tnum : Int)]
def recV (r : Rc) (d t : Value) : Value := .agg (recC r d t)
def tabC (r : Rc) (d t : Value) : Array Value := #[d, t, .int .u64 (r.ttx : Int), .int .u64 (r.tnum : Int)]
def tabV (r : Rc) (d t : Value) : Value := .agg (tabC r d t)
/-- a record that came in: its numbers are ones, and its lists lie there -/
structure InR (w : World) (r : Rc) (d t : Value) : Prop where
  wf : r.wf
  di : IsDi w d r.dirty
  ac : IsAc w t r.txns
theorem InR.later {w w' : World} {r : Rc} {d t : Value} (h : InR w r d t) (b : Below w.heap.size w w') : InR w' r d t := ⟨h.wf, h.di.later b, h.ac.later b⟩
theorem InR.zero (w : World) : InR w Rc.zero (.slice none 0 0) (.slice none 0 0) :=
  ⟨⟨by decide, by decide, by decide, by decide, by decide, by decide, by decide, by decide, by decide, by decide, by decide, by decide, fun i d h => by simp [Rc.zero] at h, fun i d h => by simp [Rc.zero] at h⟩, IsDi.nil w, IsAc.nil w⟩

end Go.Proofs.Ytfcibccipkokoaa.Rec
