/-
  Walks: the answers that the document fixes; what none answers.
-/
import Derived.Test.YtgohpompgiljiaaZ29
namespace Go.Proofs.Ytgohpompgiljiaa.Disk
open Go.RowKit

def fullB (c : UInt8) : ByteArray := ⟨(fullL c).toArray⟩
theorem fullB_size (c : UInt8) : (fullB c).size = 128 := by show (fullL c).toArray.size = 128; rw [List.size_toArray, fullL_len]
theorem fullB_list (c : UInt8) : (fullB c).data.toList = fullL c := rfl

/-- two truths in a new block -/
theorem bools_two (w : World) (a b : Bool) : Bools (w.alloc (.cells #[.bool a, .bool b] 4)) (.slice (some ⟨w.heap.size, 0, none⟩) 2 2) [a, b] := by
  refine ⟨some ⟨w.heap.size, 0, none⟩, 2, rfl, fun j c hc => ⟨w.heap.size, 0, rfl, ?_⟩⟩
  rw [Nat.zero_add, World.cell?_alloc_new]
  match j, hc with
  | 0, hc => simp at hc; subst hc; rfl
  | 1, hc => simp at hc; subst hc; rfl

/-- one disk, made since w: it stands at p -/
structure St (w wi : World) (p : Nat) (d : D) : Prop where
  rep : Rep wi p d (Fresh w wi)
  below : Below w.heap.size w wi
theorem St.later {w a b : World} {p : Nat} {d : D} (h : St w a p d) (t : Below a.heap.size a b) : St w b p d :=
  ⟨(h.rep.later t).mono (fun c hc => ⟨hc.1, Nat.lt_of_lt_of_le hc.2 t.size⟩) (fun _ hc => hc.2), h.below.trans (t.mono h.below.size)⟩
theorem St.op {w a b : World} {p : Nat} {d d' : D} (h : St w a p d) (r : Rep b p d' (grew (Fresh w a) a b) ∧ Touch (Fresh w a) a b) : St w b p d' :=
  ⟨r.1.mono (fun c hc => by
      have := r.2.size
      have := h.below.size
      rcases hc with hc | hc
      · exact ⟨hc.1, by have := hc.2; omega⟩
      · exact ⟨by have := hc.1; omega, hc.2⟩) (fun _ hc => hc.2), h.below.trans (r.2.below h.below.size fun _ hc => hc.1)⟩
theorem St.op0 {w a b : World} {p : Nat} {d d' : D} (h : St w a p d) (r : Rep b p d' (Fresh w a) ∧ Touch (Fresh w a) a b) : St w b p d' :=
  h.op ⟨r.1.mono (fun c hc => .inl hc) (fun c hc => by
    rcases hc with hc | hc
    · exact Nat.lt_of_lt_of_le hc.2 r.2.size
    · exact hc.2), r.2⟩

/-- what is new meanwhile is not the disk's -/
theorem St.op1 {w a b c : World} {p : Nat} {d d' : D} (h : St w a p d) (t : Below a.heap.size a b) (r : Rep c p d' (Fresh w a) ∧ Touch (Fresh w a) b c) : St w c p d' := by
  have h1 := h.later t
  have t2 : Touch (Fresh w b) b c := r.2.mono fun x hx => ⟨hx.1, Nat.lt_of_lt_of_le hx.2 t.size⟩
  refine ⟨r.1.mono (fun x hx => ⟨hx.1, ?_⟩) (fun _ hx => hx.2), h1.below.trans (t2.below h1.below.size fun _ hx => hx.1)⟩
  have := hx.2
  have := t.size
  have := r.2.size
  omega

end Go.Proofs.Ytgohpompgiljiaa.Disk
