/-
  Walks: lists of ops, as bytes (the document).
  Walks: bytes that are read: a number, a text (the document).
  Walks: a text that is read (the document).
-/
import Derived.Test.YtfcibccipkokoaaZ7
import Derived.Test.YtfcibccipkokoaaZ3
import Derived.Test.YtfcibccipkokoaaZ1
namespace Go.Proofs.Ytfcibccipkokoaa.Op
open Go.RowKit
open Go.Proofs.Ytfcibccipkokoaa.Seq (strS Is)
open Go.Proofs.Ytfcibccipkokoaa.By
attribute [local go_sem ↓] Go.wp_at_zero Go.wp_at_succ

/-- an op, where it lies in a list -/
structure OAt (w : World) (b o : Nat) (x : O) (u : Value) : Prop where
  c0 : w.cell? ⟨b, o, none⟩ = some (.int .u8 (x.kind : Int))
  c1 : w.cell? ⟨b, o + 1, none⟩ = some (.int .u32 (x.page : Int))
  c2 : w.cell? ⟨b, o + 2, none⟩ = some (.int .i64 x.at')
  c3 : w.cell? ⟨b, o + 3, none⟩ = some (.int .i64 x.off)
  c4 : w.cell? ⟨b, o + 4, none⟩ = some (.string x.text)
  c5 : w.cell? ⟨b, o + 5, none⟩ = some u
  c6 : w.cell? ⟨b, o + 6, none⟩ = some (.int .u8 (x.pkind : Int))
  c7 : w.cell? ⟨b, o + 7, none⟩ = some (.int .u8 (x.level : Int))
  c8 : w.cell? ⟨b, o + 8, none⟩ = some (.int .u32 (x.next : Int))
  lt : b < w.heap.size
theorem OAt.later {w w' : World} {b o : Nat} {x : O} {u : Value} (h : OAt w b o x u) (t : Below w.heap.size w w') : OAt w' b o x u := by
  have e : ∀ j, w'.cell? ⟨b, j, none⟩ = w.cell? ⟨b, j, none⟩ := fun j => World.cell?_of_block (t.block b h.lt)
  exact ⟨(e _).trans h.c0, (e _).trans h.c1, (e _).trans h.c2, (e _).trans h.c3, (e _).trans h.c4, (e _).trans h.c5, (e _).trans h.c6, (e _).trans h.c7, (e _).trans h.c8, Nat.lt_of_lt_of_le h.lt t.size⟩
theorem Ops.nine {w : World} {a : Option Addr} {n cap : Nat} {l : List O} (h : Ops w (.slice a n cap) l) {i : Nat} (hi : i < l.length) :
    ∃ u b o, a = some ⟨b, o, none⟩ ∧ In w l[i] u ∧ OAt w b (o + i * 9) l[i] u := by
  obtain ⟨u, b, o, h1, h2, h3, h4⟩ := h.at hi
  have e : ∀ j x, (oL (l[i], u))[j]? = some x → w.cell? ⟨b, o + i * 9 + j, none⟩ = some x := fun j x hx => by rw [Nat.add_assoc]; exact h4 j x hx
  exact ⟨u, b, o, h1, h3, e 0 _ rfl, e 1 _ rfl, e 2 _ rfl, e 3 _ rfl, e 4 _ rfl, e 5 _ rfl, e 6 _ rfl, e 7 _ rfl, e 8 _ rfl, h2⟩
theorem bytes_le {o : O} (h : May o) : (bytes o).length ≤ 2000 := by
  have h1 := h.tt
  have h2 := h.rl
  have h3 := tb_len o.rows
  have h4 : (tb o.text).length = 2 + o.text.size := by unfold tb; rw [List.length_append, be_length, L_len]
  unfold bytes tail
  simp only [List.length_append, be_length]
  repeat' split
  all_goals simp only [List.length_append, be_length, List.length_nil]
  all_goals omega
theorem bad_enc {l : List O} {k : Nat} (h1 : ¬ 32 < l.length) (hk : k < l.length) (hm : ¬ May l[k]) : encE l = 2 ∧ encS l = ⟨#[]⟩ := by
  have he : encE l = 2 := by
    unfold encE
    rw [if_neg h1, if_neg]
    intro h
    exact hm (allMay_iff.1 h _ (List.getElem_mem hk))
  refine ⟨he, ?_⟩
  unfold encS
  rw [he, if_neg (by decide)]

end Go.Proofs.Ytfcibccipkokoaa.Op

namespace Go.Proofs.Ytfcibccipkokoaa.Op
open Go.RowKit
open Go.Proofs.Ytfcibccipkokoaa.Seq (strS Is)
open Go.Proofs.Ytfcibccipkokoaa.By
attribute [local go_sem ↓] Go.wp_at_zero Go.wp_at_succ

/-- what is being read: the text, where, whether something was wanting -/
def gC (s : ByteArray) (a : Nat) (b : Bool) : Array Value := #[.string s, .int .i64 (a : Int), .bool b]
/-- what is left: r -/
def Left (B : Nat) (s : ByteArray) (a : Nat) (b : Bool) (r : Rd) : Prop := (b = false ∧ a ≤ s.size ∧ r = some ((L s).drop a)) ∨ (b = true ∧ r = none ∧ a ≤ B)
theorem cV_drop {s : ByteArray} {a m : Nat} (ha : a ≤ s.size) : cV m (some ((L s).drop a)) = if a + m ≤ s.size then (((L s).drop a).take m, some ((L s).drop (a + m))) else ([], none) := by
  show (if m ≤ ((L s).drop a).length then _ else _) = _
  rw [List.length_drop, L_len]
  by_cases h : a + m ≤ s.size
  · rw [if_pos (by omega), if_pos h, List.drop_drop]
  · rw [if_neg (by omega), if_neg h]

end Go.Proofs.Ytfcibccipkokoaa.Op

namespace Go.Proofs.Ytfcibccipkokoaa.Op
open Go.RowKit
open Go.Proofs.Ytfcibccipkokoaa.Seq (strS Is)
open Go.Proofs.Ytfcibccipkokoaa.By
attribute [local go_sem ↓] Go.wp_at_zero Go.wp_at_succ

theorem nV_lt (m : Nat) (r : Rd) : (nV m r).1 < 256 ^ m := by
  cases h : (nV m r).2 with
  | some l => exact (nV_some (x := (nV m r).1) (m := l) (by rw [← h])).2
  | none =>
    have : (nV m r).1 = 0 := by
      cases r with
      | none => rfl
      | some l =>
        have ec : cV m (some l) = if m ≤ l.length then (l.take m, some (l.drop m)) else ([], none) := rfl
        unfold nV at h ⊢
        rw [ec] at h ⊢
        by_cases e : m ≤ l.length
        · rw [if_pos e] at h; cases h
        · rw [if_neg e]; rfl
    rw [this]
    exact Nat.pow_pos (by omega)

/-- what the document's Cut answers -/
def cutR (s : ByteArray) (a n : Nat) : ByteArray × Bool := if a + n ≤ s.size then (s.extract a (a + n), true) else (⟨#[]⟩, false)
theorem rcut_any (s : ByteArray) (a n : Nat) (w : World) (hs : s.size ≤ 281474976710656) (ha : a ≤ 1000000000) (hn : n ≤ 1000000000) :
    Calls Try.prog 102 #[.string s, .int .i64 (a : Int), .int .i64 (n : Int)] w fun e w' => e = .returned (.tuple #[.string (cutR s a n).1, .bool (cutR s a n).2]) ∧ w = w' := by
  by_cases h : a + n ≤ s.size
  · unfold cutR
    rw [if_pos h]
    exact rcut_yes s a n w hs h
  · unfold cutR
    rw [if_neg h]
    exact rcut_no s a n w hs (by omega) (by omega) (by unfold hasB; simp; omega)
theorem tV_cut {s : ByteArray} {r : Rd} {a n : Nat} (hn : (nV 2 r).1 = n) (h1 : (nV 2 r).2 = some ((L s).drop a)) (ha : a ≤ s.size) :
    tV r = if a + n ≤ s.size then (s.extract a (a + n), some ((L s).drop (a + n))) else (⟨#[]⟩, none) := by
  unfold tV
  rw [hn, h1, cV_drop ha]
  by_cases h : a + n ≤ s.size
  · rw [if_pos h, if_pos h]
    simp only
    rw [show ((L s).drop a).take n = L (s.extract a (a + n)) by rw [L_cut, show a + n - a = n by omega]]
    first | done | rfl | rw [T_L]
  · rw [if_neg h, if_neg h]
theorem tV_bad {r : Rd} (h1 : (nV 2 r).2 = none) : tV r = (⟨#[]⟩, none) := by
  unfold tV
  rw [h1]
  rfl

end Go.Proofs.Ytfcibccipkokoaa.Op
