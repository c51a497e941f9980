/-
  What a call may touch.
  Plain mathematics: bytes with numbers of two bytes in them; areas of texts.
  Plain mathematics: numbers as bytes, highest first.
  word: may, has.
  Walks: Put.
  Walks: the reference's Put.
  word and the document: Get.
  An area in memory: its blocks; what copies, clears and slices do to it.
  Plain mathematics: what is done to an area's bytes is what is done to the area.
  Plain mathematics: areas stay areas; their texts.
  Plain mathematics: what Put, Set, Remove do to an area's bytes.
  Plain mathematics: an area's bytes are one text.
-/
import Derived.Test.YtmandeohbiagfaaProg
import Derived.WalkKit
import Derived.WalkSpells
import Derived.WalkLawsBesides
import Derived.Lib.Hide
import Derived.Lib.BufSteps
import Derived.Lib.BufferWrite
import Derived.Lib.SliceRun
import Derived.Laws.Rows
import Derived.Laws.CopyOwn
import Derived.Laws.MakeOwn
import Derived.Laws.IdiomCopy
import Derived.Laws.IdiomStrings
import Derived.Laws.CopyRow
import Derived.Deep.MidRow
import Derived.Deep.Upon
import Derived.Deep.Draws
import Derived.Deep.RegionHeld3
import Derived.Deep.DrawnRows
import Derived.Deep.QuietTactic
import Derived.BigQuiet
import Derived.StillTailTactics
import Derived.Laws.Pointers
import Derived.WalkMore
import Derived.Outline
import Derived.Deep.DeepCutAuto
import Derived.Deep.CutBlock
namespace Go.Proofs.Ytmandeohbiagfaa
open Go.RowKit

/-- what may be touched: F, and what is new -/
structure Touch (F : Nat → Prop) (w w' : World) : Prop where
  os : w'.os = w.os
  tape : w'.tape = w.tape
  output : w'.output = w.output
  size : w.heap.size ≤ w'.heap.size
  block : ∀ b, b < w.heap.size → ¬ F b → w'.heap[b]? = w.heap[b]?
def grew (F : Nat → Prop) (w w' : World) (b : Nat) : Prop := F b ∨ (w.heap.size ≤ b ∧ b < w'.heap.size)

theorem Touch.refl (F : Nat → Prop) (w : World) : Touch F w w := ⟨rfl, rfl, rfl, Nat.le_refl _, fun _ _ _ => rfl⟩
theorem Touch.trans {F G : Nat → Prop} {a b c : World} (h : Touch F a b) (k : Touch G b c) (hG : ∀ x, x < a.heap.size → G x → F x) : Touch F a c :=
  ⟨k.os.trans h.os, k.tape.trans h.tape, k.output.trans h.output, Nat.le_trans h.size k.size, fun x hx hF => (k.block x (Nat.lt_of_lt_of_le hx h.size) (fun hg => hF (hG x hx hg))).trans (h.block x hx hF)⟩
theorem Touch.trans' {F : Nat → Prop} {a b c : World} (h : Touch F a b) (k : Touch F b c) : Touch F a c := h.trans k fun _ _ hx => hx
theorem Touch.step {F : Nat → Prop} {a b c : World} (h : Touch F a b) (k : Touch (grew F a b) b c) : Touch F a c :=
  h.trans k fun x hx hg => by
    rcases hg with hg | hg
    · exact hg
    · omega
theorem Touch.mono {F G : Nat → Prop} {a b : World} (h : Touch F a b) (hG : ∀ x, F x → G x) : Touch G a b :=
  ⟨h.os, h.tape, h.output, h.size, fun x hx hn => h.block x hx fun hf => hn (hG x hf)⟩
theorem Touch.ofBelow {F : Nat → Prop} {B : Nat} {a b : World} (h : Below B a b) (hF : ∀ x, B ≤ x → x < a.heap.size → F x) : Touch F a b :=
  ⟨h.os, h.tape, h.output, h.size, fun x hx hn => h.block x (by
    rcases Nat.lt_or_ge x B with h1 | h1
    · exact h1
    · exact absurd (hF x h1 hx) hn)⟩
theorem Touch.ofNew {F : Nat → Prop} {a b : World} (h : Below a.heap.size a b) : Touch F a b := Touch.ofBelow h fun x h1 h2 => by omega
theorem Touch.below {F : Nat → Prop} {B : Nat} {a b : World} (h : Touch F a b) (hB : B ≤ a.heap.size) (hF : ∀ x, F x → B ≤ x) : Below B a b :=
  ⟨h.os, h.tape, h.output, h.size, fun x hx => h.block x (by omega) fun hf => by have := hF x hf; omega⟩
theorem Touch.alloc {F : Nat → Prop} {a w : World} (h : Touch F a w) (o : Obj) : Touch F a (w.alloc o) :=
  h.trans' (F := F) (Touch.ofNew ((Below.refl _ _).alloc (Nat.le_refl _) o))
theorem Touch.drew {F : Nat → Prop} {a w : World} (h : Touch F a w) : Touch F a w.drew := ⟨h.os, h.tape, h.output, h.size, h.block⟩
theorem Touch.setCell {F : Nat → Prop} {a w : World} (h : Touch F a w) {x : Addr} (hx : F x.block) (u : Value) : Touch F a (w.setCell x u) :=
  h.trans' ⟨rfl, rfl, rfl, by simp, fun b _ hn => Below.heap_setCell _ _ _ _ (fun e => hn (e ▸ hx))⟩
theorem Touch.setNew {F : Nat → Prop} {a w : World} (h : Touch F a w) {x : Addr} (hx : a.heap.size ≤ x.block) (u : Value) : Touch F a (w.setCell x u) :=
  h.trans (G := fun b => b = x.block) (Touch.setCell (F := fun b => b = x.block) (Touch.refl _ _) (x := x) rfl u) fun y hy e => by omega
theorem Touch.setCells {F : Nat → Prop} {a : World} {g : Nat} (hg : F g) : ∀ (vs : List Value) (o : Nat) {w : World}, Touch F a w → Touch F a (w.setCells g o vs)
  | [], _, _, h => h
  | v :: r, o, _, h => Touch.setCells hg r (o + 1) (h.setCell (x := ⟨g, o, none⟩) hg v)
theorem Touch.grown {F : Nat → Prop} {a w w' : World} {row : Option Nat} (h : Touch F a w) (hg : w.grownBy w' row) (hr : ∀ k, row = some k → F k) : Touch F a w' :=
  h.trans' ⟨hg.os, hg.tape, hg.output, hg.size, fun b hb hn => hg.block b hb fun e => hn (hr b e.symm)⟩
theorem grew_lt {F : Nat → Prop} {w w' : World} (h : ∀ b, F b → b < w.heap.size) (hs : w.heap.size ≤ w'.heap.size) : ∀ b, grew F w w' b → b < w'.heap.size := by
  rintro b (hb | hb)
  · have := h b hb; omega
  · exact hb.2


theorem below_drewN {B : Nat} {w w' : World} (h : Below B w w') (n : Nat) : Below B w (w'.drewN n) :=
  ⟨h.os, h.tape, h.output, h.size, h.block⟩
theorem quiet_same {P : Program} {f : FuncId} {args : Array Value} {w : World} {n : Nat} {v : Value}
    (h : Calls P f args (w.drewN n) fun e w' => e = .returned v ∧ w.drewN n = w') : Calls P f args (w.drewN n) fun e w'' => e = .returned v ∧ ∃ m, w'' = w.drewN m :=
  h.mono fun _ _ ⟨he, hm⟩ => ⟨he, n, hm.symm⟩
theorem quiet_same0 {P : Program} {f : FuncId} {args : Array Value} {w : World} {v : Value}
    (h : Calls P f args w fun e w' => e = .returned v ∧ w = w') : Calls P f args w fun e w'' => e = .returned v ∧ ∃ m, w'' = w.drewN m :=
  h.mono fun _ _ ⟨he, hm⟩ => ⟨he, 0, hm.symm⟩

end Go.Proofs.Ytmandeohbiagfaa

/- Plain mathematics: bytes with numbers of two bytes in them; areas of texts. -/
namespace Go.Proofs.Ytmandeohbiagfaa.Slot

/-- a number's two bytes, the higher one first -/
def two (n : Nat) : List UInt8 := [UInt8.ofNat (n / 256), UInt8.ofNat n]
/-- the number whose bytes stand there -/
def numL (b : List UInt8) (k : Nat) : Nat := 256 * (b.getD k 0).toNat + (b.getD (k + 1) 0).toNat
/-- other bytes from a place on -/
def putL {T : Type} (b : List T) (k : Nat) (t : List T) : List T := b.take k ++ t ++ b.drop (k + t.length)

theorem two_len (n : Nat) : (two n).length = 2 := rfl
theorem putL_len {T : Type} {b : List T} {k : Nat} {t : List T} (h : k + t.length ≤ b.length) : (putL b k t).length = b.length := by
  unfold putL; simp; omega
theorem putL_at {T : Type} {b : List T} {k : Nat} {t : List T} (h : k + t.length ≤ b.length) (j : Nat) : (putL b k t)[j]? = if k ≤ j ∧ j < k + t.length then t[j - k]? else b[j]? := by
  unfold putL
  have hk : (b.take k).length = k := by rw [List.length_take]; omega
  by_cases h1 : j < k
  · rw [if_neg (by omega), List.append_assoc, List.getElem?_append_left (by omega), List.getElem?_take, if_pos h1]
  · rw [List.append_assoc, List.getElem?_append_right (by omega), hk]
    by_cases h2 : j < k + t.length
    · rw [if_pos ⟨by omega, h2⟩, List.getElem?_append_left (by omega)]
    · rw [if_neg (by omega), List.getElem?_append_right (by omega), List.getElem?_drop]
      congr 1; omega
theorem putL_in {T : Type} {b : List T} {k : Nat} {t : List T} (h : k + t.length ≤ b.length) {j : Nat} (h1 : k ≤ j) (h2 : j < k + t.length) : (putL b k t)[j]? = t[j - k]? := by rw [putL_at h, if_pos ⟨h1, h2⟩]
theorem putL_out {T : Type} {b : List T} {k : Nat} {t : List T} (h : k + t.length ≤ b.length) {j : Nat} (h1 : j < k ∨ k + t.length ≤ j) : (putL b k t)[j]? = b[j]? := by rw [putL_at h, if_neg (by omega)]
theorem putL_nil {T : Type} (b : List T) (k : Nat) : putL b k [] = b := by simp [putL]
theorem putL_map {T U : Type} (f : T → U) (b : List T) (k : Nat) (t : List T) : (putL b k t).map f = putL (b.map f) k (t.map f) := by simp [putL]

theorem num_congr {b c : List UInt8} {j k : Nat} (h0 : b[j]? = c[k]?) (h1 : b[j + 1]? = c[k + 1]?) : numL b j = numL c k := by
  simp only [numL, List.getD_eq_getElem?_getD, h0, h1]
theorem num_far {b : List UInt8} {k : Nat} {t : List UInt8} (h : k + t.length ≤ b.length) {j : Nat} (hj : j + 2 ≤ k ∨ k + t.length ≤ j) : numL (putL b k t) j = numL b j :=
  num_congr (putL_out h (by omega)) (putL_out h (by omega))
theorem num_in {b : List UInt8} {k : Nat} {t : List UInt8} (h : k + t.length ≤ b.length) {j : Nat} (h1 : k ≤ j) (h2 : j + 2 ≤ k + t.length) : numL (putL b k t) j = numL t (j - k) :=
  num_congr (putL_in h h1 (by omega)) (by rw [putL_in h (by omega) (by omega)]; congr 1; omega)
theorem num_two {n : Nat} (h : n < 65536) : numL (two n) 0 = n := by
  simp [numL, two]; omega
theorem num_put {b : List UInt8} {k n : Nat} (h : k + 2 ≤ b.length) (hn : n < 65536) : numL (putL b k (two n)) k = n := by
  rw [num_in (by rw [two_len]; exact h) (Nat.le_refl _) (by rw [two_len]; omega), Nat.sub_self, num_two hn]
theorem num_lt (b : List UInt8) (k : Nat) : numL b k < 65536 := by
  have h1 := (b.getD k 0).toNat_lt
  have h2 := (b.getD (k + 1) 0).toNat_lt
  unfold numL; omega
theorem num_part {b : List UInt8} {lo m i : Nat} (h : i + 2 ≤ m) : numL ((b.drop lo).take m) i = numL b (lo + i) :=
  num_congr (by rw [List.getElem?_take, if_pos (by omega), List.getElem?_drop]) (by rw [List.getElem?_take, if_pos (by omega), List.getElem?_drop]; congr 1)
theorem byte_eq {a b : UInt8} (h : a.toNat = b.toNat) : a = b := UInt8.toNat_inj.1 h
/-- a number tells its two bytes -/
theorem num_tells {b c : List UInt8} {k : Nat} (hb : k + 2 ≤ b.length) (hc : k + 2 ≤ c.length) (h : numL b k = numL c k) : b[k]? = c[k]? ∧ b[k + 1]? = c[k + 1]? := by
  have h1 := (b.getD (k + 1) 0).toNat_lt
  have h2 := (c.getD (k + 1) 0).toNat_lt
  unfold numL at h
  have e1 : b.getD k 0 = c.getD k 0 := byte_eq (by omega)
  have e2 : b.getD (k + 1) 0 = c.getD (k + 1) 0 := byte_eq (by omega)
  simp only [List.getD_eq_getElem?_getD] at e1 e2
  rw [List.getElem?_eq_getElem (show k < b.length by omega), List.getElem?_eq_getElem (show k < c.length by omega)] at e1 ⊢
  rw [List.getElem?_eq_getElem (show k + 1 < b.length by omega), List.getElem?_eq_getElem (show k + 1 < c.length by omega)] at e2 ⊢
  simp only [Option.getD_some] at e1 e2
  exact ⟨by rw [e1], by rw [e2]⟩

/-- an area: all its bytes (those of the directory count for nothing), the low place, the directory: where each text stands, how long it is -/
structure A where
  cells : List UInt8
  low : Nat
  dir : List (Nat × Nat)

def tot (l : List (Nat × Nat)) : Nat := (l.map Prod.snd).sum
def txt (c : List UInt8) (x : Nat × Nat) : List UInt8 := (c.drop x.1).take x.2
def A.n (a : A) : Nat := a.cells.length
def A.fin (a : A) : Nat := 4 + 4 * a.dir.length
def A.free (a : A) : Nat := a.n - a.fin - tot a.dir
def A.gap (a : A) : Nat := a.low - a.fin
def A.at (a : A) (i : Nat) : Nat × Nat := a.dir.getD i (0, 0)
def A.text (a : A) (i : Nat) : List UInt8 := txt a.cells (a.at i)
def A.texts (a : A) : List (List UInt8) := a.dir.map (txt a.cells)
/-- no byte is both's -/
def clear (x y : Nat × Nat) : Prop := x.2 = 0 ∨ y.2 = 0 ∨ x.1 + x.2 ≤ y.1 ∨ y.1 + y.2 ≤ x.1

structure A.ok (a : A) : Prop where
  lo : 16 ≤ a.n
  hi : a.n ≤ 4096
  fin : a.fin ≤ a.low
  low : a.low ≤ a.n
  each : ∀ i, i < a.dir.length → a.low ≤ (a.at i).1 ∧ (a.at i).1 + (a.at i).2 ≤ a.n
  apart : ∀ i j, i < a.dir.length → j < a.dir.length → i ≠ j → clear (a.at i) (a.at j)
  room : a.low + tot a.dir ≤ a.n

/-- these are the area's bytes -/
structure Is (b : List UInt8) (a : A) : Prop where
  len : b.length = a.n
  cnt : numL b 0 = a.dir.length
  low : numL b 2 = a.low
  dir : ∀ i, i < a.dir.length → numL b (4 + 4 * i) = (a.at i).1 ∧ numL b (6 + 4 * i) = (a.at i).2
  rest : ∀ j, a.fin ≤ j → b[j]? = a.cells[j]?

theorem tot_nil : tot [] = 0 := rfl
theorem tot_cons (x : Nat × Nat) (l : List (Nat × Nat)) : tot (x :: l) = x.2 + tot l := by simp [tot]
theorem tot_app (l m : List (Nat × Nat)) : tot (l ++ m) = tot l + tot m := by simp [tot]
theorem tot_split (l : List (Nat × Nat)) (k : Nat) : tot l = tot (l.take k) + tot (l.drop k) := by rw [← tot_app, List.take_append_drop]
theorem at_get {a : A} {i : Nat} (h : i < a.dir.length) : a.dir[i]? = some (a.at i) := by
  unfold A.at
  rw [List.getD_eq_getElem?_getD, List.getElem?_eq_getElem h]
  rfl
theorem at_elem {a : A} {i : Nat} (h : i < a.dir.length) : a.dir[i] = a.at i := by
  have := at_get h
  rw [List.getElem?_eq_getElem h] at this
  exact Option.some.inj this
theorem tot_take {l : List (Nat × Nat)} {k : Nat} (h : k < l.length) : tot (l.take (k + 1)) = tot (l.take k) + (l.getD k (0, 0)).2 := by
  rw [List.take_succ_eq_append_getElem h, tot_app, tot_cons, tot_nil, List.getD_eq_getElem?_getD, List.getElem?_eq_getElem h]
  rfl
theorem tot_take_le (l : List (Nat × Nat)) (k : Nat) : tot (l.take k) ≤ tot l := by rw [tot_split l k]; omega
theorem tot_take_mono (l : List (Nat × Nat)) {j k : Nat} (h : j ≤ k) : tot (l.take j) ≤ tot (l.take k) := by
  have := tot_take_le (l.take k) j
  rwa [List.take_take, Nat.min_eq_left h] at this
theorem tot_set {l : List (Nat × Nat)} {k : Nat} (h : k < l.length) (x : Nat × Nat) : tot (l.set k x) + (l.getD k (0, 0)).2 = tot l + x.2 := by
  rw [List.set_eq_take_append_cons_drop, if_pos h, tot_app, tot_cons]
  have h1 := tot_split l (k + 1)
  have h2 := tot_take h
  omega
theorem at_le_tot {a : A} {i : Nat} (h : i < a.dir.length) : (a.at i).2 ≤ tot a.dir := by
  have h1 := tot_take h
  have h2 := tot_take_le a.dir (i + 1)
  unfold A.at; omega
theorem ok_free {a : A} (h : a.ok) : a.n = a.fin + tot a.dir + a.free ∧ a.gap ≤ a.free ∧ a.low = a.fin + a.gap := by
  have := h.fin; have := h.room
  unfold A.free A.gap
  omega

/-! ### texts in other bytes -/
theorem txt_len {c : List UInt8} {x : Nat × Nat} (h : x.1 + x.2 ≤ c.length) : (txt c x).length = x.2 := by
  unfold txt; simp; omega
theorem txt_congr {c d : List UInt8} {x y : Nat × Nat} (hs : x.2 = y.2) (h : ∀ j, j < x.2 → c[x.1 + j]? = d[y.1 + j]?) : txt c x = txt d y := by
  unfold txt
  apply List.ext_getElem?
  intro j
  rw [List.getElem?_take, List.getElem?_take, ← hs]
  by_cases hj : j < x.2
  · rw [if_pos hj, if_pos hj, List.getElem?_drop, List.getElem?_drop, h j hj]
  · rw [if_neg hj, if_neg hj]
theorem txt_put {c : List UInt8} {k : Nat} {t : List UInt8} (h : k + t.length ≤ c.length) : txt (putL c k t) (k, t.length) = t := by
  unfold txt
  apply List.ext_getElem?
  intro j
  rw [List.getElem?_take]
  by_cases hj : j < t.length
  · simp only [if_pos hj, List.getElem?_drop]
    rw [putL_in h (by omega) (by omega)]
    congr 1; omega
  · simp only [if_neg hj]
    rw [List.getElem?_eq_none (by omega)]
theorem txt_far {c : List UInt8} {k : Nat} {t : List UInt8} (h : k + t.length ≤ c.length) {x : Nat × Nat} (hx : clear (k, t.length) x) : txt (putL c k t) x = txt c x :=
  txt_congr rfl fun j hj => putL_out h (by
    rcases hx with h1 | h1 | h1 | h1 <;> (try simp only at h1) <;> omega)

/-! ### what is done to an area -/
def A.new (n : Nat) : A := ⟨List.replicate n 0, n, []⟩
/-- the text stands just ahead of the low place -/
def A.lay (a : A) (t : List UInt8) : List UInt8 := putL a.cells (a.low - t.length) t
def A.putAt (a : A) (i : Nat) (t : List UInt8) : A := ⟨a.lay t, a.low - t.length, a.dir.take i ++ (a.low - t.length, t.length) :: a.dir.drop i⟩
def A.setAt (a : A) (i : Nat) (t : List UInt8) : A := ⟨a.lay t, a.low - t.length, a.dir.set i (a.low - t.length, t.length)⟩
def A.inPlace (a : A) (i : Nat) (t : List UInt8) : A := ⟨putL a.cells (a.at i).1 t, a.low, a.dir.set i ((a.at i).1, t.length)⟩
def A.hollow (a : A) (i : Nat) : A := ⟨a.cells, a.low, a.dir.set i ((a.at i).1, 0)⟩
def A.del (a : A) (i : Nat) : A := ⟨putL a.cells (a.fin - 4) [0, 0, 0, 0], a.low, a.dir.take i ++ a.dir.drop (i + 1)⟩
/-- the first k texts are moved -/
def A.mid (a : A) : Nat → A
  | 0 => ⟨a.cells, a.n, a.dir⟩
  | k + 1 => (a.mid k).setAt k (a.text k)
def A.compact (a : A) : A := ⟨putL (a.mid a.dir.length).cells 0 (List.replicate (a.mid a.dir.length).low 0), (a.mid a.dir.length).low, (a.mid a.dir.length).dir⟩

theorem at_set {l : List (Nat × Nat)} {k : Nat} {x : Nat × Nat} (h : k < l.length) (i : Nat) : (l.set k x).getD i (0, 0) = if i = k then x else l.getD i (0, 0) := by
  simp only [List.getD_eq_getElem?_getD, List.getElem?_set]
  by_cases e : k = i
  · subst e; simp [h]
  · rw [if_neg e, if_neg (fun h => e h.symm)]

section
variable {a : A} (h : a.ok)
include h
theorem text_len {i : Nat} (hi : i < a.dir.length) : (a.text i).length = (a.at i).2 := txt_len (h.each i hi).2

theorem mid_all (k : Nat) (hk : k ≤ a.dir.length) : (a.mid k).n = a.n ∧ (a.mid k).dir.length = a.dir.length ∧ (a.mid k).low + tot (a.dir.take k) = a.n ∧
    (∀ i, i < k → (a.mid k).at i = (a.n - tot (a.dir.take (i + 1)), (a.at i).2) ∧ (a.mid k).text i = a.text i) ∧ (∀ i, k ≤ i → (a.mid k).at i = a.at i) ∧ ∀ j, j < (a.mid k).low → (a.mid k).cells[j]? = a.cells[j]? := by
  have hr := h.room
  have hlow := h.low
  induction k with
  | zero => exact ⟨rfl, rfl, by simp [A.mid, tot], fun i hi => by omega, fun i _ => rfl, fun j _ => rfl⟩
  | succ k ih =>
    obtain ⟨h1, h2, h3, h4, h5, h6⟩ := ih (by omega)
    have ht := text_len h (i := k) (by omega)
    have e1 : tot (a.dir.take (k + 1)) = tot (a.dir.take k) + (a.at k).2 := tot_take (by omega)
    have e2 := tot_take_le a.dir (k + 1)
    have hle : (a.mid k).low - (a.text k).length + (a.text k).length ≤ (a.mid k).cells.length := by
      have : (a.mid k).cells.length = a.n := h1
      omega
    have hat : ∀ i, (a.mid (k + 1)).at i = if i = k then ((a.mid k).low - (a.text k).length, (a.text k).length) else (a.mid k).at i := fun i => at_set (by omega) i
    refine ⟨?_, ?_, ?_, ?_, ?_, ?_⟩
    · show ((a.mid k).lay (a.text k)).length = a.n
      unfold A.lay; rw [putL_len hle]; exact h1
    · show ((a.mid k).dir.set k _).length = _
      rw [List.length_set]; exact h2
    · show (a.mid k).low - (a.text k).length + _ = _
      omega
    · intro i hi
      by_cases e : i = k
      · subst e
        refine ⟨by rw [hat, if_pos rfl, ht]; congr 1; omega, ?_⟩
        show txt ((a.mid i).lay (a.text i)) ((a.mid (i + 1)).at i) = _
        rw [hat, if_pos rfl]
        exact txt_put hle
      · have h7 := h4 i (by omega)
        refine ⟨by rw [hat, if_neg e]; exact h7.1, ?_⟩
        show txt ((a.mid k).lay (a.text k)) ((a.mid (k + 1)).at i) = _
        rw [hat, if_neg e]
        rw [← h7.2]
        refine txt_far hle (.inr (.inr (.inl ?_)))
        have e3 := tot_take_mono a.dir (show i + 1 ≤ k by omega)
        rw [h7.1]
        simp only
        omega
    · intro i hi
      rw [hat, if_neg (by omega)]
      exact h5 i (by omega)
    · intro j hj
      have hj' : j < (a.mid k).low - (a.text k).length := hj
      show ((a.mid k).lay (a.text k))[j]? = _
      unfold A.lay
      rw [putL_out hle (by omega)]
      exact h6 j (by omega)

theorem compact_all : a.compact.n = a.n ∧ a.compact.dir.length = a.dir.length ∧ a.compact.low + tot a.dir = a.n ∧ tot a.compact.dir = tot a.dir ∧
    (∀ i, i < a.dir.length → a.compact.at i = (a.n - tot (a.dir.take (i + 1)), (a.at i).2) ∧ a.compact.text i = a.text i) := by
  obtain ⟨h1, h2, h3, h4, _, _⟩ := mid_all h a.dir.length (Nat.le_refl _)
  rw [List.take_length] at h3
  have hle : 0 + (List.replicate (a.mid a.dir.length).low (0 : UInt8)).length ≤ (a.mid a.dir.length).cells.length := by
    have : (a.mid a.dir.length).cells.length = a.n := h1
    simp; omega
  have hat : ∀ i, a.compact.at i = (a.mid a.dir.length).at i := fun i => rfl
  refine ⟨?_, h2, h3, ?_, ?_⟩
  · show (putL _ _ _).length = _
    rw [putL_len hle]; exact h1
  · unfold tot
    congr 1
    apply List.ext_getElem
    · rw [List.length_map, List.length_map]; exact h2
    · intro i hi hi2
      rw [List.length_map] at hi hi2
      rw [List.getElem_map, List.getElem_map, at_elem hi, at_elem hi2, hat, (h4 i hi2).1]
  · intro i hi
    refine ⟨by rw [hat]; exact (h4 i hi).1, ?_⟩
    rw [← (h4 i hi).2]
    show txt (putL _ _ _) _ = txt _ _
    rw [hat]
    refine txt_far hle ?_
    have e1 := tot_take_le a.dir (i + 1)
    refine .inr (.inr (.inl ?_))
    rw [(h4 i hi).1]
    simp only [List.length_replicate]
    omega
theorem compact_ok : a.compact.ok := by
  obtain ⟨h1, h2, h3, h4, h5⟩ := compact_all h
  have hr := h.room
  have hf : a.compact.fin = a.fin := by unfold A.fin; rw [h2]
  have hfin := h.fin
  refine ⟨by rw [h1]; exact h.lo, by rw [h1]; exact h.hi, by omega, by omega, fun i hi => ?_, fun i j hi hj hij => ?_, by rw [h4]; omega⟩
  · rw [h2] at hi
    have e1 := tot_take_le a.dir (i + 1)
    have e2 : tot (a.dir.take (i + 1)) = tot (a.dir.take i) + (a.at i).2 := tot_take hi
    rw [(h5 i hi).1]
    simp only
    omega
  · rw [h2] at hi hj
    have i1 := tot_take_le a.dir (i + 1)
    have j1 := tot_take_le a.dir (j + 1)
    have i2 : tot (a.dir.take (i + 1)) = tot (a.dir.take i) + (a.at i).2 := tot_take hi
    have j2 : tot (a.dir.take (j + 1)) = tot (a.dir.take j) + (a.at j).2 := tot_take hj
    rw [(h5 i hi).1, (h5 j hj).1]
    unfold clear
    simp only
    by_cases h6 : i < j
    · have := tot_take_mono a.dir (show i + 1 ≤ j by omega)
      omega
    · have := tot_take_mono a.dir (show j + 1 ≤ i by omega)
      omega
theorem compact_gap : a.compact.gap = a.free ∧ a.compact.free = a.free ∧ a.compact.fin = a.fin := by
  obtain ⟨h1, h2, h3, h4, h5⟩ := compact_all h
  have hf : a.compact.fin = a.fin := by unfold A.fin; rw [h2]
  have := h.room
  have := h.fin
  unfold A.gap A.free
  rw [h1, h4, hf]
  omega
end

end Go.Proofs.Ytmandeohbiagfaa.Slot

/- Plain mathematics: numbers as bytes, highest first. -/
namespace Go.Proofs.Ytmandeohbiagfaa

/-- the m lowest bytes of n, the highest first -/
def be (m n : Nat) : List UInt8 := (List.range m).map fun j => UInt8.ofNat (n / 2 ^ (8 * (m - 1 - j)) % 256)
def num (l : List UInt8) : Nat := l.foldl (fun a b => 256 * a + b.toNat) 0

theorem be_length (m n : Nat) : (be m n).length = m := by simp [be]
theorem be_get (m n j : Nat) (h : j < (be m n).length) : (be m n)[j].toNat = n / 2 ^ (8 * (m - 1 - j)) % 256 := by
  simp [be]
theorem be_snoc (m n : Nat) : be (m + 1) n = be m (n / 256) ++ [UInt8.ofNat (n % 256)] := by
  unfold be
  rw [List.range_succ, List.map_append]
  congr 1
  · apply List.map_congr_left
    intro j hj
    have hj' : j < m := by simpa using hj
    have e : 8 * (m + 1 - 1 - j) = 8 * (m - 1 - j) + 8 := by omega
    rw [e, Nat.pow_add, Nat.mul_comm, ← Nat.div_div_eq_div_mul]
  · simp
theorem num_snoc (l : List UInt8) (b : UInt8) : num (l ++ [b]) = 256 * num l + b.toNat := by
  simp [num]
theorem num_be (m : Nat) : ∀ n, n < 256 ^ m → num (be m n) = n := by
  induction m with
  | zero => intro n h; simp at h; subst h; rfl
  | succ m ih =>
    intro n h
    rw [be_snoc, num_snoc, ih (n / 256) (by rw [Nat.pow_succ] at h; omega)]
    simp; omega
theorem num_lt (l : List UInt8) : num l < 256 ^ l.length := by
  suffices h : ∀ m (l : List UInt8), l.length = m → num l < 256 ^ m from h _ l rfl
  intro m
  induction m with
  | zero => intro l h; cases l <;> simp_all [num]
  | succ m ih =>
    intro l h
    have hne : l ≠ [] := by intro e; subst e; simp at h
    rw [← List.dropLast_concat_getLast hne, num_snoc, Nat.pow_succ]
    have h1 := ih l.dropLast (by simp; omega)
    have h2 := (l.getLast hne).toNat_lt
    omega
theorem num_lt_of {l : List UInt8} {m : Nat} (h : l.length ≤ m) : num l < 256 ^ m := Nat.lt_of_lt_of_le (num_lt l) (Nat.pow_le_pow_right (by omega) h)
theorem num_take_succ (l : List UInt8) (k : Nat) (h : k < l.length) : num (l.take (k + 1)) = 256 * num (l.take k) + l[k].toNat := by
  rw [List.take_succ_eq_append_getElem h, num_snoc]
theorem pow256 (m : Nat) : 2 ^ (8 * m) = 256 ^ m := by rw [Nat.pow_mul]

end Go.Proofs.Ytmandeohbiagfaa

namespace Go.Proofs.Ytmandeohbiagfaa
open Go.RowKit

theorem ret_int {k : IntKind} {a b : Int} (h : a = b) : Ending.returned (.int k a) = .returned (.int k b) := by rw [h]
theorem ret_bool {a b : Bool} (h : a = b) : Ending.returned (.bool a) = .returned (.bool b) := by rw [h]
def mayB (n : Int) : Bool := decide (1 ≤ n ∧ n ≤ 8)
def hasB (l : Nat) (a size : Int) : Bool := decide (0 ≤ a ∧ 0 ≤ size ∧ a + size ≤ l)
set_option maxRecDepth 100000 in
theorem may_any (n : Int) (w : World) :
    Calls Try.prog 68 #[.int .i64 n] w fun e w' => e = .returned (.bool (mayB n)) ∧ w = w' := by
  go_enter Try.func68, Try.ntmps68
  go_wp2
  all_goals
    go_ret
    exact ⟨ret_bool (by unfold mayB; simp; omega), rfl⟩

set_option maxRecDepth 100000 in
theorem has_any (s : ByteArray) (a n : Int) (w : World) (hs : s.size ≤ maxLen) (ha : -9223372036854775808 ≤ a ∧ a ≤ 9223372036854775807) :
    Calls Try.prog 89 #[.string s, .int .i64 a, .int .i64 n] w fun e w' => e = .returned (.bool (hasB s.size a n)) ∧ w = w' := by
  unfold maxLen at hs
  go_enter Try.func89, Try.ntmps89
  go_wp2
  all_goals
    go_ret
    exact ⟨ret_bool (by unfold hasB; first | (rw [decide_eq_decide]; omega) | (symm; rw [decide_eq_false_iff_not]; omega)), rfl⟩

theorem has_yes (s : ByteArray) (a n : Nat) (h : a + n ≤ s.size) : hasB s.size a n = true := by unfold hasB; simp; omega
end Go.Proofs.Ytmandeohbiagfaa

namespace Go.Proofs.Ytmandeohbiagfaa
open Go.RowKit

def cellsAt (n : Int) (k : Nat) (cs : Array Value) : Prop := cs.size = 8 ∧ ∀ j, j < 8 → cs[j]? = some (.int .u8 (if 8 - k ≤ j then n / 2 ^ (8 * (7 - j)) % 256 else 0))

def bytesOf (m : Nat) (n : Int) : ByteArray := ⟨(be m n.toNat).toArray⟩

theorem be_int (m : Nat) (n : Int) (hn : 0 ≤ n) (j : Nat) (h : j < (be m n.toNat).length) : ((be m n.toNat)[j].toNat : Int) = n / 2 ^ (8 * (m - 1 - j)) % 256 := by
  rw [be_get]
  have e : n = (n.toNat : Int) := by omega
  conv => rhs; rw [e]
  simp

theorem put_back (n : Int) (hn : 0 ≤ n) (m : Nat) (h8 : m ≤ 8) (w : World) (cs : Array Value) (hcs : cellsAt n 8 cs) :
    (convert 45 9 (.slice (some ⟨w.heap.size, 8 - m, none⟩) m m)).run Try.prog (w.alloc (.cells cs 92)) = .ok (.string (bytesOf m n)) (w.alloc (.cells cs 92)) := by
  have hl := be_length m n.toNat
  have h := run_convert_bytes_back (P := Try.prog) (w.alloc (.cells cs 92)) 45 9 5 ⟨w.heap.size, 8 - m, none⟩ m (be m n.toNat) Try.underlying45 Try.underlying5 Try.underlying9 (by
    intro j hj
    have hj' : j < m := by omega
    have e : (⟨w.heap.size, 8 - m, none⟩ : Addr).add j = ⟨w.heap.size, 8 - m + j, none⟩ := by simp [Addr.add]
    rw [e, World.cell?_alloc_mark, hcs.2 _ (by omega), if_pos (by omega), be_int m n hn j hj]
    have e2 : 7 - (8 - m + j) = m - 1 - j := by omega
    rw [e2])
  rw [hl] at h
  exact h

theorem put_cut (m : Nat) (h0 : 1 ≤ m) (h8 : m ≤ 8) (g : Nat) (w : World) :
    (Instr.sliceAt 92 (.pointer (some ⟨g, 0, none⟩)) (some (.int .i64 (8 - (m : Int)))) none none).run Try.prog w = .ok (.slice (some ⟨g, 8 - m, none⟩) m m) w := by
  have ha : Try.prog.arrayLen 92 = 8 := by kernel_rfl
  have hz : ∀ w, (sizeOf (Try.prog.elem 92)).run Try.prog w = .ok 1 w := fun w => by kernel_rfl
  rw [run_sliceAt_array_l w 92 ⟨g, 0, none⟩ (by kernel_rfl) .i64 (8 - (m : Int)) (by omega) (by rw [ha]; omega), hz, ha]
  have e1 : (8 - (m : Int)).toNat = 8 - m := by omega
  have e2 : ¬ (8 = 8 - m) := by omega
  have e3 : 8 - (8 - m) = m := by omega
  simp [slicedAt, Result.andThen, e1, e2, e3, Addr.add]
  omega

set_option maxRecDepth 100000 in
set_option maxHeartbeats 400000 in
theorem put_yes (n : Int) (m : Nat) (w : World) (h0 : 1 ≤ m) (h8 : m ≤ 8) (hn0 : 0 ≤ n) (hn : (n / 2 ^ (8 * m) != 0) = false) :
    Calls Try.prog 42 #[.int .u64 n, .int .i64 m] w fun e w' => e = .returned (.tuple #[.string (bytesOf m n), .bool true]) ∧ Below w.heap.size w w' := by
  have hmay : mayB m = true := by unfold mayB; simp; omega
  go_enter Try.func42, Try.ntmps42
  go_wp2_with (go_at_call 68; refine (may_any _ _).mono ?_; rintro e w' ⟨rfl, rfl⟩)
  go_loopw [18] (fun i wr => ∃ (k : Nat) (cs : Array Value), k ≤ 8 ∧ i = .int .i64 k ∧ wr = w.alloc (.cells cs 92) ∧ cellsAt n k cs) (fun i _ => 8 - (intOf i).toNat)
  case atStart => 
    refine ⟨0, _, by omega, rfl, rfl, rfl, ?_⟩
    intro j hj
    rw [if_neg (by omega)]
    (match j, hj with | 0, _ | 1, _ | 2, _ | 3, _ | 4, _ | 5, _ | 6, _ | 7, _ => rfl)
  case round =>
    obtain ⟨k, cs, hk, rfl, rfl, hcs⟩ := hrel
    by_cases hlt : k < 8
    · have hc := hcs.2 (7 - k) (by omega)
      rw [if_neg (by omega)] at hc
      go_wp2
      go_roundw
      case rel =>
        refine ⟨k + 1, _, by omega, by go_num, rfl, by simp [hcs.1], ?_⟩
        intro j hj
        rw [Array.getElem?_setIfInBounds]
        by_cases hj2 : 7 - k = j
        · subst hj2
          have e : 7 - (7 - k) = k := by omega
          rw [if_pos rfl, if_pos (by rw [hcs.1]; omega), if_pos (by omega), e]
        · rw [if_neg hj2, hcs.2 j hj]
          by_cases hj3 : 8 - k ≤ j
          · rw [if_pos hj3, if_pos (by omega)]
          · rw [if_neg hj3, if_neg (by omega)]
      case measure => simp [intOf]; omega
    · obtain rfl : k = 8 := by omega
      have hb := put_back n hn0 m h8 w cs hcs
      have hsl := put_cut m h0 h8 w.heap.size
      go_wp2
      go_ret2
      exact ⟨rfl, (Below.refl _ _).alloc (Nat.le_refl _) _⟩

set_option maxRecDepth 100000 in
theorem put_no_size (n size : Int) (w : World) (h0 : size < 1 ∨ 8 < size) :
    Calls Try.prog 42 #[.int .u64 n, .int .i64 size] w fun e w' => e = .returned (.tuple #[.string ⟨#[]⟩, .bool false]) ∧ w = w' := by
  have hmay : mayB size = false := by unfold mayB; simp; omega
  go_enter Try.func42, Try.ntmps42
  go_wp2_with (go_at_call 68; refine (may_any _ _).mono ?_; rintro e w' ⟨rfl, rfl⟩)
  go_ret2
  exact ⟨rfl, rfl⟩

set_option maxRecDepth 100000 in
theorem put_no_room (n : Int) (m : Nat) (w : World) (h0 : 1 ≤ m) (h8 : m ≤ 8) (hn : (n / 2 ^ (8 * m) != 0) = true) :
    Calls Try.prog 42 #[.int .u64 n, .int .i64 m] w fun e w' => e = .returned (.tuple #[.string ⟨#[]⟩, .bool false]) ∧ w = w' := by
  have hmay : mayB m = true := by unfold mayB; simp; omega
  go_enter Try.func42, Try.ntmps42
  go_wp2_with (go_at_call 68; refine (may_any _ _).mono ?_; rintro e w' ⟨rfl, rfl⟩)
  go_ret2
  exact ⟨rfl, rfl⟩

end Go.Proofs.Ytmandeohbiagfaa

namespace Go.Proofs.Ytmandeohbiagfaa
open Go.RowKit

def cellsTo (n : Int) (m k : Nat) (cs : Array Value) : Prop := cs.size = m ∧ ∀ j, j < m → cs[j]? = some (.int .u8 (if m - k ≤ j then n / 2 ^ (8 * (m - 1 - j)) % 256 else 0))

theorem rput_back (n : Int) (hn : 0 ≤ n) (m : Nat) (w : World) (cs : Array Value) (hcs : cellsTo n m m cs) :
    (convert 45 9 (.slice (some ⟨w.heap.size, 0, none⟩) m m)).run Try.prog (w.alloc (.cells cs 5)) = .ok (.string (bytesOf m n)) (w.alloc (.cells cs 5)) := by
  have hl := be_length m n.toNat
  have h := run_convert_bytes_back (P := Try.prog) (w.alloc (.cells cs 5)) 45 9 5 ⟨w.heap.size, 0, none⟩ m (be m n.toNat) Try.underlying45 Try.underlying5 Try.underlying9 (by
    intro j hj
    have hj' : j < m := by omega
    have e : (⟨w.heap.size, 0, none⟩ : Addr).add j = ⟨w.heap.size, j, none⟩ := by simp [Addr.add]; omega
    rw [e, World.cell?_alloc_mark, hcs.2 _ (by omega), if_pos (by omega), be_int m n hn j hj])
  rw [hl] at h
  exact h

theorem div_step (n : Int) (k : Nat) : n / 2 ^ (8 * k) / 256 = n / 2 ^ (8 * (k + 1)) := by
  have e : (2 : Int) ^ (8 * (k + 1)) = 2 ^ (8 * k) * 256 := by rw [Nat.mul_add, Int.pow_add]; rfl
  have hp : (0 : Int) ≤ 2 ^ (8 * k) := by exact Int.le_of_lt (Int.pow_pos (by omega))
  rw [e, Int.ediv_ediv_of_nonneg hp]

theorem div_pos (n : Int) (hn : 0 ≤ n) (k : Nat) : 0 ≤ n / 2 ^ (8 * k) := Int.ediv_nonneg hn (Int.le_of_lt (Int.pow_pos (by omega)))

theorem zero_cells (n : Int) (m : Nat) : cellsTo n m 0 (madeCells (Value.int .u8 0).cells m) := by
  refine ⟨size_madeCells _ _, ?_⟩
  intro j hj
  rw [if_neg (by omega)]
  unfold madeCells
  simp [Value.cells, hj, Nat.mod_one]

theorem cellsTo_step {n : Int} {m k : Nat} {cs : Array Value} (h : cellsTo n m k cs) (hk : k < m) : cellsTo n m (k + 1) (cs.setIfInBounds (m - 1 - k) (.int .u8 (n / 2 ^ (8 * k) % 256))) := by
  refine ⟨by simp [h.1], ?_⟩
  intro j hj
  rw [Array.getElem?_setIfInBounds]
  by_cases hj2 : m - 1 - k = j
  · subst hj2
    have e : m - 1 - (m - 1 - k) = k := by omega
    rw [if_pos rfl, if_pos (by rw [h.1]; omega), if_pos (by omega), e]
  · rw [if_neg hj2, h.2 j hj]
    by_cases hj3 : m - k ≤ j
    · rw [if_pos hj3, if_pos (by omega)]
    · rw [if_neg hj3, if_neg (by omega)]

def U64 (n : Int) : Prop := 0 ≤ n ∧ n ≤ 18446744073709551615
theorem u64_quo {n : Int} (hn : U64 n) (k : Nat) : IntKind.u64.wrap ((n / 2 ^ (8 * k)).tdiv 256) = n / 2 ^ (8 * (k + 1)) := by
  have h1 := div_pos n hn.1 k
  have h2 : n / 2 ^ (8 * k) ≤ n := Int.ediv_le_self _ hn.1
  have h3 := hn.2
  rw [Int.tdiv_eq_ediv_of_nonneg h1, ← div_step, IntKind.wrap_u64]
  omega

theorem Word.infoB : (Try.prog.info? 5).map (fun i => (i.zero, i.size, i.bytes)) = some (some (.int .u8 0), 1, 1) := by kernel_rfl

set_option maxRecDepth 100000 in
set_option maxHeartbeats 400000 in
theorem rput_yes (n : Int) (m : Nat) (w : World) (h0 : 1 ≤ m) (h8 : m ≤ 8) (hu : U64 n) (hn : (n / 2 ^ (8 * m) != 0) = false) :
    Calls Try.prog 46 #[.int .u64 n, .int .i64 m] w fun e w' => e = .returned (.tuple #[.string (bytesOf m n), .bool true]) ∧ Below w.heap.size w w' := by
  have hn0 : 0 ≤ n := hu.1
  obtain ⟨i0, hi, hz0, hz1, hz2⟩ := info_parts Word.infoB
  obtain ⟨M, hM⟩ : ∃ M, M = madeCells (Value.int .u8 0).cells m := ⟨_, rfl⟩
  have hmk : ∀ W : World, (Instr.makeSlice 45 (.int .i64 (m : Int)) (.int .i64 (m : Int))).run Try.prog W = .ok (.slice (some ⟨W.heap.size, 0, none⟩) m m) (W.alloc (.cells M 5)) := fun W => by
    have h := run_make (P := Try.prog) W 45 5 i0 (.int .u8 0) Try.underlying45 hi hz0 .i64 .i64 (m : Int) (m : Int) (by omega) (by omega) (by rw [hz2]; omega) (by omega)
    simpa [hz1, ← hM] using h
  have hM0 : cellsTo n m 0 M := by rw [hM]; exact zero_cells n m
  clear hM hz0 hz1 hz2 hi
  go_enter Try.func46, Try.ntmps46
  go_wp2
  go_loopw [0, 7] (fun v i wr => ∃ (k : Nat) (cs : Array Value), k ≤ m ∧ v = .int .u64 (n / 2 ^ (8 * k)) ∧ i = .int .i64 ((m : Int) - 1 - k) ∧ wr = w.alloc (.cells cs 5) ∧ cellsTo n m k cs) (fun _ i _ => (intOf i + 1).toNat)
  case atStart => exact ⟨0, M, by omega, by simp, by simp, rfl, hM0⟩
  case round =>
    obtain ⟨k, cs, hk, rfl, rfl, rfl, hcs⟩ := hrel
    have hp := div_pos n hn0 k
    by_cases hlt : k < m
    · have hc := hcs.2 (m - 1 - k) (by omega)
      rw [if_neg (by omega)] at hc
      go_wp2
      go_roundw
      case rel => 
        refine ⟨k + 1, _, by omega, ?_, ?_, rfl, ?_⟩
        · rw [u64_quo hu]
        · congr 1; omega
        · exact cellsTo_step hcs hlt
      case measure => simp [intOf]; omega
    · obtain rfl : k = m := by omega
      have hb := rput_back n hn0 k w cs hcs
      go_wp2
      go_ret2
      exact ⟨rfl, (Below.refl _ _).alloc (Nat.le_refl _) _⟩

set_option maxRecDepth 100000 in
set_option maxHeartbeats 400000 in
theorem rput_no_room (n : Int) (m : Nat) (w : World) (h0 : 1 ≤ m) (h8 : m ≤ 8) (hu : U64 n) (hn : (n / 2 ^ (8 * m) != 0) = true) :
    Calls Try.prog 46 #[.int .u64 n, .int .i64 m] w fun e w' => e = .returned (.tuple #[.string ⟨#[]⟩, .bool false]) ∧ Below w.heap.size w w' := by
  have hn0 : 0 ≤ n := hu.1
  obtain ⟨i0, hi, hz0, hz1, hz2⟩ := info_parts Word.infoB
  obtain ⟨M, hM⟩ : ∃ M, M = madeCells (Value.int .u8 0).cells m := ⟨_, rfl⟩
  have hmk : ∀ W : World, (Instr.makeSlice 45 (.int .i64 (m : Int)) (.int .i64 (m : Int))).run Try.prog W = .ok (.slice (some ⟨W.heap.size, 0, none⟩) m m) (W.alloc (.cells M 5)) := fun W => by
    have h := run_make (P := Try.prog) W 45 5 i0 (.int .u8 0) Try.underlying45 hi hz0 .i64 .i64 (m : Int) (m : Int) (by omega) (by omega) (by rw [hz2]; omega) (by omega)
    simpa [hz1, ← hM] using h
  have hM0 : cellsTo n m 0 M := by rw [hM]; exact zero_cells n m
  clear hM hz0 hz1 hz2 hi
  go_enter Try.func46, Try.ntmps46
  go_wp2
  go_loopw [0, 7] (fun v i wr => ∃ (k : Nat) (cs : Array Value), k ≤ m ∧ v = .int .u64 (n / 2 ^ (8 * k)) ∧ i = .int .i64 ((m : Int) - 1 - k) ∧ wr = w.alloc (.cells cs 5) ∧ cellsTo n m k cs) (fun _ i _ => (intOf i + 1).toNat)
  case atStart => exact ⟨0, M, by omega, by simp, by simp, rfl, hM0⟩
  case round =>
    obtain ⟨k, cs, hk, rfl, rfl, rfl, hcs⟩ := hrel
    have hp := div_pos n hn0 k
    by_cases hlt : k < m
    · have hc := hcs.2 (m - 1 - k) (by omega)
      rw [if_neg (by omega)] at hc
      go_wp2
      go_roundw
      case rel => 
        refine ⟨k + 1, _, by omega, ?_, ?_, rfl, ?_⟩
        · rw [u64_quo hu]
        · congr 1; omega
        · exact cellsTo_step hcs hlt
      case measure => simp [intOf]; omega
    · obtain rfl : k = m := by omega
      go_wp2
      go_ret2
      exact ⟨rfl, (Below.refl _ _).alloc (Nat.le_refl _) _⟩

set_option maxRecDepth 100000 in
theorem rput_no_size (n size : Int) (w : World) (h0 : size < 1 ∨ 8 < size) :
    Calls Try.prog 46 #[.int .u64 n, .int .i64 size] w fun e w' => e = .returned (.tuple #[.string ⟨#[]⟩, .bool false]) ∧ w = w' := by
  rcases h0 with h0 | h0
  · go_enter Try.func46, Try.ntmps46
    go_wp2
    go_ret2
    exact ⟨rfl, rfl⟩
  · go_enter Try.func46, Try.ntmps46
    go_wp2
    go_ret2
    exact ⟨rfl, rfl⟩

def putB (n size : Int) : Bool := decide (1 ≤ size ∧ size ≤ 8 ∧ n / 2 ^ (8 * size.toNat) = 0)
def putS (n size : Int) : ByteArray := if putB n size then bytesOf size.toNat n else ⟨#[]⟩

theorem put_any (n size : Int) (w : World) (hu : U64 n) :
    Calls Try.prog 42 #[.int .u64 n, .int .i64 size] w fun e w' => e = .returned (.tuple #[.string (putS n size), .bool (putB n size)]) ∧ Below w.heap.size w w' := by
  by_cases hs : 1 ≤ size ∧ size ≤ 8
  · obtain ⟨m, rfl⟩ : ∃ m : Nat, size = m := ⟨size.toNat, by omega⟩
    by_cases hr : n / 2 ^ (8 * m) = 0
    · have hb : putB n m = true := by unfold putB; simpa [hr] using hs
      have hp : putS n m = bytesOf m n := by unfold putS; rw [hb]; simp
      rw [hb, hp]
      exact put_yes n m w (by omega) (by omega) hu.1 (by simpa using hr)
    · have hb : putB n m = false := by unfold putB; simp [hr]
      have hp : putS n m = ⟨#[]⟩ := by unfold putS; rw [hb]; simp
      rw [hb, hp]
      exact (put_no_room n m w (by omega) (by omega) (by simpa using hr)).mono fun _ _ ⟨a, b⟩ => ⟨a, b ▸ Below.refl _ _⟩
  · have hb : putB n size = false := by unfold putB; simp; omega
    have hp : putS n size = ⟨#[]⟩ := by unfold putS; rw [hb]; simp
    rw [hb, hp]
    exact (put_no_size n size w (by omega)).mono fun _ _ ⟨a, b⟩ => ⟨a, b ▸ Below.refl _ _⟩

theorem rput_any (n size : Int) (w : World) (hu : U64 n) :
    Calls Try.prog 46 #[.int .u64 n, .int .i64 size] w fun e w' => e = .returned (.tuple #[.string (putS n size), .bool (putB n size)]) ∧ Below w.heap.size w w' := by
  by_cases hs : 1 ≤ size ∧ size ≤ 8
  · obtain ⟨m, rfl⟩ : ∃ m : Nat, size = m := ⟨size.toNat, by omega⟩
    by_cases hr : n / 2 ^ (8 * m) = 0
    · have hb : putB n m = true := by unfold putB; simpa [hr] using hs
      have hp : putS n m = bytesOf m n := by unfold putS; rw [hb]; simp
      rw [hb, hp]
      exact rput_yes n m w (by omega) (by omega) hu (by simpa using hr)
    · have hb : putB n m = false := by unfold putB; simp [hr]
      have hp : putS n m = ⟨#[]⟩ := by unfold putS; rw [hb]; simp
      rw [hb, hp]
      exact rput_no_room n m w (by omega) (by omega) hu (by simpa using hr)
  · have hb : putB n size = false := by unfold putB; simp; omega
    have hp : putS n size = ⟨#[]⟩ := by unfold putS; rw [hb]; simp
    rw [hb, hp]
    exact (rput_no_size n size w (by omega)).mono fun _ _ ⟨a, b⟩ => ⟨a, b ▸ Below.refl _ _⟩

end Go.Proofs.Ytmandeohbiagfaa

namespace Go.Proofs.Ytmandeohbiagfaa
open Go.RowKit

set_option maxRecDepth 100000 in
theorem rcut_yes (s : ByteArray) (a n : Nat) (w : World) (hs : s.size ≤ 281474976710656) (h : a + n ≤ s.size) :
    Calls Try.prog 60 #[.string s, .int .i64 a, .int .i64 n] w fun e w' => e = .returned (.tuple #[.string (s.extract a (a + n)), .bool true]) ∧ w = w' := by
  go_enter Try.func60, Try.ntmps60
  go_wp2
  go_ret2
  exact ⟨rfl, rfl⟩

set_option maxRecDepth 100000 in
theorem rcut_no (s : ByteArray) (a n : Int) (w : World) (_hs : s.size ≤ 281474976710656) (ha : -9223372036854775808 ≤ a ∧ a ≤ 9223372036854775807) (hn : -9223372036854775808 ≤ n ∧ n ≤ 9223372036854775807) (hh : hasB s.size a n = false) :
    Calls Try.prog 60 #[.string s, .int .i64 a, .int .i64 n] w fun e w' => e = .returned (.tuple #[.string ⟨#[]⟩, .bool false]) ∧ w = w' := by
  have hh' : ¬ (0 ≤ a ∧ 0 ≤ n ∧ a + n ≤ s.size) := by simpa [hasB] using hh
  clear hh
  by_cases h1 : a < 0
  · clear hh'
    go_enter Try.func60, Try.ntmps60
    go_wp2
    go_ret2
    exact ⟨rfl, rfl⟩
  by_cases h2 : n < 0
  · clear hh'
    go_enter Try.func60, Try.ntmps60
    go_wp2
    go_ret2
    exact ⟨rfl, rfl⟩
  by_cases h3 : a > s.size
  · clear hh'
    go_enter Try.func60, Try.ntmps60
    go_wp2
    go_ret2
    exact ⟨rfl, rfl⟩
  have h4 : n > s.size - a := by omega
  clear hh'
  go_enter Try.func60, Try.ntmps60
  go_wp2
  go_ret2
  exact ⟨rfl, rfl⟩

/-- the number of the first k bytes from a on -/
def numAt (s : ByteArray) (a k : Nat) : Nat := num ((s.data.toList.drop a).take k)
theorem numAt_zero (s : ByteArray) (a : Nat) : numAt s a 0 = 0 := by simp [numAt, num]
theorem numAt_succ (s : ByteArray) (a k : Nat) (h : a + k < s.size) : numAt s a (k + 1) = 256 * numAt s a k + (s[a + k]).toNat := by
  unfold numAt
  have hl : k < (s.data.toList.drop a).length := by simp; have : s.size = s.data.size := rfl; omega
  rw [num_take_succ _ _ hl]
  simp
  rfl

theorem numAt_lt (s : ByteArray) (a k : Nat) : numAt s a k < 256 ^ k := num_lt_of (by simp; omega)
theorem or_byte (x y : Nat) (hx : x < 256 ^ 7) (hy : y < 256) : bits .or .u64 (IntKind.u64.wrap ((x : Int) * 256)) (IntKind.u64.wrap (y : Int)) = ((256 * x + y : Nat) : Int) := by
  have e1 : IntKind.u64.wrap ((x : Int) * 256) = ((256 * x : Nat) : Int) := by rw [IntKind.wrap_u64]; omega
  have e2 : IntKind.u64.wrap (y : Int) = (y : Int) := by rw [IntKind.wrap_u64]; omega
  rw [e1, e2, u64_or_nat _ _ (by omega) (by omega)]
  congr 1
  have h := Nat.two_pow_add_eq_or_of_lt (i := 8) (b := y) (by omega) x
  have e3 : (2 : Nat) ^ 8 = 256 := rfl
  rw [e3] at h
  exact h.symm

set_option maxRecDepth 100000 in
set_option maxHeartbeats 400000 in
theorem get_yes (s : ByteArray) (a m : Nat) (w : World) (hs : s.size ≤ 281474976710656) (h0 : 1 ≤ m) (h8 : m ≤ 8) (h : a + m ≤ s.size) :
    Calls Try.prog 59 #[.string s, .int .i64 a, .int .i64 m] w fun e w' => e = .returned (.tuple #[.int .u64 (numAt s a m), .bool true]) ∧ w = w' := by
  have hh := has_yes s a m h
  have hmay : mayB m = true := by unfold mayB; simp; omega
  go_enter Try.func59, Try.ntmps59
  go_wp2_with (first | (go_at_call 89; refine (has_any _ _ _ _ (by unfold maxLen; omega) (by omega)).mono ?_; rintro e w' ⟨rfl, rfl⟩) | (go_at_call 68; refine (may_any _ _).mono ?_; rintro e w' ⟨rfl, rfl⟩))
  go_loop [8, 21] (fun v i => ∃ k : Nat, k ≤ m ∧ i = .int .i64 k ∧ v = .int .u64 (numAt s a k)) (fun _ i => m - (intOf i).toNat)
  case atStart => exact ⟨0, by omega, rfl, by rw [numAt_zero]; rfl⟩
  case round =>
    obtain ⟨k, hk, rfl, rfl⟩ := hrel
    by_cases hlt : k < m
    · go_wp2
      go_round
      case rel => 
        refine ⟨k + 1, by omega, by go_num, ?_⟩
        have hl := numAt_lt s a k
        have hk7 : (256 : Nat) ^ k ≤ 256 ^ 7 := Nat.pow_le_pow_right (by omega) (by omega)
        have hb := s[a + k].toNat_lt
        rw [or_byte _ _ (by omega) (by omega), numAt_succ s a k (by omega)]
      case measure => simp [intOf]; omega
    · obtain rfl : k = m := by omega
      go_wp2
      go_ret2
      exact ⟨rfl, rfl⟩

set_option maxRecDepth 100000 in
theorem get_no (s : ByteArray) (a n : Int) (w : World) (hs : s.size ≤ 281474976710656) (ha : -9223372036854775808 ≤ a ∧ a ≤ 9223372036854775807) (hh : (mayB n && hasB s.size a n) = false) :
    Calls Try.prog 59 #[.string s, .int .i64 a, .int .i64 n] w fun e w' => e = .returned (.tuple #[.int .u64 0, .bool false]) ∧ w = w' := by
  by_cases hm : mayB n = true
  · have hh2 : hasB s.size a n = false := by simpa [hm] using hh
    clear hh
    go_enter Try.func59, Try.ntmps59
    go_wp2_with (first | (go_at_call 89; refine (has_any _ _ _ _ (by unfold maxLen; omega) (by omega)).mono ?_; rintro e w' ⟨rfl, rfl⟩) | (go_at_call 68; refine (may_any _ _).mono ?_; rintro e w' ⟨rfl, rfl⟩))
    go_ret2
    exact ⟨rfl, rfl⟩
  · have hm2 : mayB n = false := by simpa using hm
    clear hh hm
    go_enter Try.func59, Try.ntmps59
    go_wp2_with (first | (go_at_call 89; refine (has_any _ _ _ _ (by unfold maxLen; omega) (by omega)).mono ?_; rintro e w' ⟨rfl, rfl⟩) | (go_at_call 68; refine (may_any _ _).mono ?_; rintro e w' ⟨rfl, rfl⟩))
    go_ret2
    exact ⟨rfl, rfl⟩

theorem numAt_part (s : ByteArray) (a m k : Nat) (_h : a + m ≤ s.size) (hk : k ≤ m) : numAt (s.extract a (a + m)) 0 k = numAt s a k := by
  unfold numAt
  have e : (s.extract a (a + m)).data.toList = (s.data.toList.drop a).take m := by
    rw [ByteArray.data_extract, Array.toList_extract, List.extract_eq_take_drop]
    congr 1
    omega
  rw [e, List.drop_zero, List.take_take, Nat.min_eq_left hk]

theorem add_byte (x y : Nat) (hx : x < 256 ^ 7) (hy : y < 256) : IntKind.u64.wrap (IntKind.u64.wrap (256 * (x : Int)) + IntKind.u64.wrap (y : Int)) = ((256 * x + y : Nat) : Int) := by
  simp only [IntKind.wrap_u64]; omega
set_option maxRecDepth 100000 in
set_option maxHeartbeats 400000 in
theorem rget_yes (s : ByteArray) (a m : Nat) (w : World) (hs : s.size ≤ 281474976710656) (h0 : 1 ≤ m) (h8 : m ≤ 8) (h : a + m ≤ s.size) :
    Calls Try.prog 36 #[.string s, .int .i64 a, .int .i64 m] w fun e w' => e = .returned (.tuple #[.int .u64 (numAt s a m), .bool true]) ∧ w = w' := by
  have hnp := numAt_part s a m
  have hcut := fun w => rcut_yes s a m w hs h
  have hsz : m ≤ (s.extract a (a + m)).size := by rw [ByteArray.size_extract]; omega
  have hsz2 : (s.extract a (a + m)).size ≤ 281474976710656 := by rw [ByteArray.size_extract]; omega
  generalize s.extract a (a + m) = t at *
  have C := Lib.hid hcut
  have N := Lib.hid hnp
  clear hcut hnp
  go_enter Try.func36, Try.ntmps36
  go_wp2_with (first | (go_at_call 60; refine (C.out _).mono ?_; rintro e w' ⟨rfl, rfl⟩))
  go_loop [10, 11] (fun v i => ∃ k : Nat, k ≤ m ∧ i = .int .i64 k ∧ v = .int .u64 (numAt t 0 k)) (fun _ i => m - (intOf i).toNat)
  case atStart => exact ⟨0, by omega, rfl, by rw [numAt_zero]; rfl⟩
  case round =>
    obtain ⟨k, hk, rfl, rfl⟩ := hrel
    by_cases hlt : k < m
    · have hkt : k < t.size := by omega
      go_wp2
      go_round
      case rel =>
        refine ⟨k + 1, by omega, by go_num, ?_⟩
        have hl := numAt_lt t 0 k
        have hk7 : (256 : Nat) ^ k ≤ 256 ^ 7 := Nat.pow_le_pow_right (by omega) (by omega)
        have hb := t[k].toNat_lt
        rw [numAt_succ t 0 k (by omega)]
        simp only [Nat.zero_add]
        rw [add_byte _ _ (by omega) (by omega)]
      case measure => simp [intOf]; omega
    · obtain rfl : k = m := by omega
      have e := N.out k h (by omega)
      have H := Lib.hid e
      clear e
      go_wp2
      go_ret2
      exact ⟨by rw [H.out]; rfl, rfl⟩

set_option maxRecDepth 100000 in
theorem rget_no (s : ByteArray) (a n : Int) (w : World) (hs : s.size ≤ 281474976710656) (ha : -9223372036854775808 ≤ a ∧ a ≤ 9223372036854775807) (hn : -9223372036854775808 ≤ n ∧ n ≤ 9223372036854775807) (hh : (mayB n && hasB s.size a n) = false) :
    Calls Try.prog 36 #[.string s, .int .i64 a, .int .i64 n] w fun e w' => e = .returned (.tuple #[.int .u64 0, .bool false]) ∧ w = w' := by
  by_cases hb : hasB s.size a n = true
  · have hm2 : mayB n = false := by simpa [hb] using hh
    have hm3 : n < 1 ∨ 8 < n := by simp [mayB] at hm2; omega
    have hb2 : 0 ≤ a ∧ 0 ≤ n ∧ a + n ≤ s.size := by simpa [hasB] using hb
    clear hh hb hm2
    obtain ⟨a, rfl⟩ : ∃ a' : Nat, a = a' := ⟨a.toNat, by omega⟩
    obtain ⟨m, rfl⟩ : ∃ a' : Nat, n = a' := ⟨n.toNat, by omega⟩
    have hcut := fun w => rcut_yes s a m w hs (by omega)
    have C := Lib.hid hcut
    clear hcut
    rcases hm3 with h1 | h1
    · go_enter Try.func36, Try.ntmps36
      go_wp2_with (first | (go_at_call 60; refine (C.out _).mono ?_; rintro e w' ⟨rfl, rfl⟩))
      go_ret2
      exact ⟨rfl, rfl⟩
    · go_enter Try.func36, Try.ntmps36
      go_wp2_with (first | (go_at_call 60; refine (C.out _).mono ?_; rintro e w' ⟨rfl, rfl⟩))
      go_ret2
      exact ⟨rfl, rfl⟩
  · have hb2 : hasB s.size a n = false := by simpa using hb
    clear hh hb
    go_enter Try.func36, Try.ntmps36
    go_wp2_with (first | (go_at_call 60; refine (rcut_no _ _ _ _ hs ha hn hb2).mono ?_; rintro e w' ⟨rfl, rfl⟩))
    go_ret2
    exact ⟨rfl, rfl⟩

def getB (s : ByteArray) (a n : Int) : Bool := mayB n && hasB s.size a n
def getN (s : ByteArray) (a n : Int) : Int := if getB s a n then numAt s a.toNat n.toNat else 0
theorem get_any (s : ByteArray) (a n : Int) (w : World) (hs : s.size ≤ 281474976710656) (ha : -9223372036854775808 ≤ a ∧ a ≤ 9223372036854775807) :
    Calls Try.prog 59 #[.string s, .int .i64 a, .int .i64 n] w fun e w' => e = .returned (.tuple #[.int .u64 (getN s a n), .bool (getB s a n)]) ∧ w = w' := by
  by_cases h : getB s a n = true
  · have h' : mayB n = true ∧ hasB s.size a n = true := by simpa [getB] using h
    have h1 : 1 ≤ n ∧ n ≤ 8 := by simpa [mayB] using h'.1
    have h2 : 0 ≤ a ∧ 0 ≤ n ∧ a + n ≤ s.size := by simpa [hasB] using h'.2
    obtain ⟨a, rfl⟩ : ∃ a' : Nat, a = a' := ⟨a.toNat, by omega⟩
    obtain ⟨m, rfl⟩ : ∃ a' : Nat, n = a' := ⟨n.toNat, by omega⟩
    have e : getN s a m = numAt s a m := by unfold getN; rw [h]; simp
    rw [h, e]
    exact get_yes s a m w hs (by omega) (by omega) (by omega)
  · have h' : getB s a n = false := by simpa using h
    have e : getN s a n = 0 := by unfold getN; rw [h']; simp
    rw [h', e]
    exact get_no s a n w hs ha h'

theorem rget_any (s : ByteArray) (a n : Int) (w : World) (hs : s.size ≤ 281474976710656) (ha : -9223372036854775808 ≤ a ∧ a ≤ 9223372036854775807) (hn : -9223372036854775808 ≤ n ∧ n ≤ 9223372036854775807) :
    Calls Try.prog 36 #[.string s, .int .i64 a, .int .i64 n] w fun e w' => e = .returned (.tuple #[.int .u64 (getN s a n), .bool (getB s a n)]) ∧ w = w' := by
  by_cases h : getB s a n = true
  · have h' : mayB n = true ∧ hasB s.size a n = true := by simpa [getB] using h
    have h1 : 1 ≤ n ∧ n ≤ 8 := by simpa [mayB] using h'.1
    have h2 : 0 ≤ a ∧ 0 ≤ n ∧ a + n ≤ s.size := by simpa [hasB] using h'.2
    obtain ⟨a, rfl⟩ : ∃ a' : Nat, a = a' := ⟨a.toNat, by omega⟩
    obtain ⟨m, rfl⟩ : ∃ a' : Nat, n = a' := ⟨n.toNat, by omega⟩
    have e : getN s a m = numAt s a m := by unfold getN; rw [h]; simp
    rw [h, e]
    exact rget_yes s a m w hs (by omega) (by omega) (by omega)
  · have h' : getB s a n = false := by simpa using h
    have e : getN s a n = 0 := by unfold getN; rw [h']; simp
    rw [h', e]
    exact rget_no s a n w hs ha hn h'

end Go.Proofs.Ytmandeohbiagfaa

namespace Go.Proofs.Ytmandeohbiagfaa.Slot
open Go.RowKit

/-- block g has these bytes at its beginning, which may be written -/
def Row (w : World) (g : Nat) (b : List UInt8) : Prop := ∃ cur m, w.heap[g]? = some (.cells cur 5 m) ∧ cur.toList.take b.length = Lib.byteCells b ∧ b.length ≤ cur.size ∧ (m.2 = 0 ∨ b.length ≤ m.1)

theorem Row.cell {w : World} {g : Nat} {b : List UInt8} (h : Row w g b) {j : Nat} (hj : j < b.length) : w.cell? ⟨g, j, none⟩ = some (.int .u8 ((b.getD j 0).toNat : Int)) := by
  obtain ⟨cur, m, h1, h2, h3, _⟩ := h
  rw [cell_of_row w g j cur _ m h1]
  have e : (cur.toList.take b.length)[j]? = (Lib.byteCells b)[j]? := by rw [h2]
  rw [List.getElem?_take, if_pos hj] at e
  rw [← Array.getElem?_toList, e]
  simp [Lib.byteCells, List.getD_eq_getElem?_getD, List.getElem?_eq_getElem hj]
theorem Row.free {w : World} {g : Nat} {b : List UInt8} (h : Row w g b) {j : Nat} (hj : j < b.length) : w.frozen? ⟨g, j, none⟩ = false := by
  obtain ⟨cur, m, h1, _, _, h4⟩ := h
  simp only [World.frozen?, h1]
  rw [Bool.and_eq_false_iff]
  rcases h4 with h4 | h4
  · right; simp; omega
  · left; simp; omega
theorem Row.far {w w' : World} {g : Nat} {b : List UInt8} (h : Row w g b) (hk : w'.heap[g]? = w.heap[g]?) : Row w' g b := by
  obtain ⟨cur, m, h1, rest⟩ := h
  exact ⟨cur, m, hk.trans h1, rest⟩
theorem Row.lt {w : World} {g : Nat} {b : List UInt8} (h : Row w g b) : g < w.heap.size := by
  obtain ⟨cur, m, h1, _⟩ := h
  exact (Array.getElem?_eq_some_iff.1 h1).1

theorem byteCells_len (t : List UInt8) : (Lib.byteCells t).length = t.length := Lib.byteCells_length t
theorem heap_put (g : Nat) (e : TypeId) (m : Nat × Nat) : ∀ (vs : List Value) (o : Nat) (w : World) (cur : Array Value), w.heap[g]? = some (.cells cur e m) → o + vs.length ≤ cur.size →
    ∃ cur' : Array Value, (w.setCells g o vs).heap[g]? = some (.cells cur' e m) ∧ cur'.size = cur.size ∧ cur'.toList = putL cur.toList o vs
  | [], o, w, cur, h, _ => ⟨cur, h, rfl, by simp [putL]⟩
  | v :: r, o, w, cur, h, hs => by
    have h1 : (w.setCell ⟨g, o, none⟩ v).heap[g]? = some (.cells (cur.setIfInBounds o v) e m) := by
      rw [setCell_eq_setRow w g o cur e m v h]
      exact setRow_heap w g cur _ e m h
    obtain ⟨cur', k1, k2, k3⟩ := heap_put g e m r (o + 1) (w.setCell ⟨g, o, none⟩ v) _ h1 (by simp at hs ⊢; omega)
    refine ⟨cur', k1, by rw [k2]; simp, ?_⟩
    have ho : o < cur.toList.length := by simp at hs ⊢; omega
    have e1 : o + 1 + r.length = o + (v :: r).length := by simp; omega
    rw [k3]
    unfold putL
    rw [Array.toList_setIfInBounds, e1, List.drop_set_of_lt (by simp)]
    have e2 : (cur.toList.set o v).take (o + 1) = cur.toList.take o ++ [v] := by
      rw [List.take_succ_eq_append_getElem (by simpa using ho), List.take_set_of_le (Nat.le_refl _)]
      simp
    rw [e2]
    simp
theorem Row.put {w : World} {g : Nat} {b : List UInt8} (h : Row w g b) {k : Nat} {t : List UInt8} (hk : k + t.length ≤ b.length) : Row (w.setCells g k (Lib.byteCells t)) g (putL b k t) := by
  obtain ⟨cur, m, h1, h2, h3, h4⟩ := h
  obtain ⟨cur', k1, k2, k3⟩ := heap_put g _ m (Lib.byteCells t) k w cur h1 (by rw [byteCells_len]; omega)
  refine ⟨cur', m, k1, ?_, by rw [putL_len hk]; omega, by rw [putL_len hk]; exact h4⟩
  rw [k3, putL_len hk]
  show _ = (putL b k t).map _
  rw [putL_map]
  have e2 : b.map (fun b : UInt8 => Value.int .u8 (b.toNat : Int)) = cur.toList.take b.length := h2.symm
  rw [e2]
  show (putL cur.toList k (Lib.byteCells t)).take b.length = putL (cur.toList.take b.length) k (Lib.byteCells t)
  unfold putL
  rw [byteCells_len]
  have hc : cur.toList.length = cur.size := by simp
  rw [List.take_append, List.take_append, List.take_take, List.take_take, List.drop_take]
  have a1 : (cur.toList.take k).length = k := by rw [List.length_take]; omega
  rw [List.length_append, a1, byteCells_len, Nat.min_comm]
  congr 1
  congr 1
  rw [List.take_of_length_le (by rw [byteCells_len]; omega)]

structure Ar (w : World) (p g c : Nat) (b : List UInt8) : Prop where
  head : w.heap[p]? = some (.cells #[.slice (some ⟨g, 0, none⟩) b.length c] 94 (0, 0))
  row : Row w g b
  cap : b.length ≤ c
  lo : 16 ≤ b.length
  hi : b.length ≤ 4096
/-- the area's own blocks -/
def both (p g b : Nat) : Prop := b = p ∨ b = g

section
variable {w : World} {p g c : Nat} {b : List UInt8}
theorem Ar.cell0 (h : Ar w p g c b) : w.cell? ⟨p, 0, none⟩ = some (.slice (some ⟨g, 0, none⟩) b.length c) := by rw [cell_of_row w p 0 _ _ _ h.head]; rfl
theorem Ar.ne (h : Ar w p g c b) : p ≠ g := by
  rintro rfl
  obtain ⟨cur, m, h1, _⟩ := h.row
  have := h.head.symm.trans h1
  simp at this
theorem Ar.below (h : Ar w p g c b) : ∀ x, both p g x → x < w.heap.size := by
  rintro x (rfl | rfl)
  · exact (Array.getElem?_eq_some_iff.1 h.head).1
  · exact h.row.lt
theorem Ar.far {w' : World} (h : Ar w p g c b) (hk : ∀ x, both p g x → w'.heap[x]? = w.heap[x]?) : Ar w' p g c b :=
  ⟨(hk p (.inl rfl)).trans h.head, h.row.far (hk g (.inr rfl)), h.cap, h.lo, h.hi⟩
theorem Ar.touch {w' : World} {G : Nat → Prop} (h : Ar w p g c b) (t : Touch G w w') (hd : ∀ x, both p g x → ¬ G x) : Ar w' p g c b :=
  h.far fun x hx => t.block x (h.below x hx) (hd x hx)
theorem Ar.later {w' : World} (h : Ar w p g c b) (t : Below w.heap.size w w') : Ar w' p g c b := h.far fun x hx => t.block x (h.below x hx)
theorem Ar.drew (h : Ar w p g c b) : Ar w.drew p g c b := h.later ((Below.refl _ _).drew)
theorem Ar.setNew (h : Ar w p g c b) {x : Addr} (hx : ¬ both p g x.block) (u : Value) : Ar (w.setCell x u) p g c b :=
  h.far fun _y hy => heap_setCell_other _ _ _ _ fun e => hx (e ▸ hy)
/-- other bytes from a place on -/
theorem Ar.put (h : Ar w p g c b) {k : Nat} {t : List UInt8} (hk : k + t.length ≤ b.length) : Ar (w.setCells g k (Lib.byteCells t)) p g c (putL b k t) ∧ Touch (both p g) w (w.setCells g k (Lib.byteCells t)) := by
  have ht := Touch.setCells (F := both p g) (.inr rfl) (Lib.byteCells t) k (Touch.refl _ w)
  have hl := putL_len hk
  refine ⟨⟨?_, h.row.put hk, by rw [hl]; exact h.cap, by rw [hl]; exact h.lo, by rw [hl]; exact h.hi⟩, ht⟩
  rw [hl, World.heap_setCells_other w g _ _ (h.below p (.inl rfl)) h.ne]
  exact h.head
end

set_option maxRecDepth 100000 in
theorem sz_byte : (Try.prog.info? 5).map (·.size) = some 1 := by kernel_rfl
set_option maxRecDepth 100000 in
theorem elem_bytes : Try.prog.underlying 45 = some (.slice (Try.prog.elem 45)) := by kernel_rfl
set_option maxRecDepth 100000 in
theorem size_byte (w : World) : (sizeOf (Try.prog.elem 45)).run Try.prog w = .ok 1 w := by kernel_rfl
/-- where a slice from k on begins -/
def base (g k c : Nat) : Option Addr := if c = k then some ⟨g, 0, none⟩ else some ⟨g, k, none⟩
theorem base_lt {g k c : Nat} (h : k < c) : base g k c = some ⟨g, k, none⟩ := if_neg (by omega)
theorem base_any (g k c : Nat) : ∃ o, base g k c = some ⟨g, o, none⟩ := by
  unfold base; split
  · exact ⟨0, rfl⟩
  · exact ⟨k, rfl⟩
set_option maxRecDepth 100000 in
theorem slice_from (W : World) {g n c k : Nat} (hk : k ≤ n) : (Instr.sliceAt 45 (.slice (some ⟨g, 0, none⟩) n c) (some (.int .i64 (k : Int))) none none).run Try.prog W = .ok (.slice (base g k c) (n - k) (c - k)) W := by
  rw [run_sliceAt_slice (P := Try.prog) W 45 _ _ _ _ elem_bytes, run_slice_l (P := Try.prog) W 45 _ _ _ elem_bytes .i64 (k : Int) (by omega) (by omega), size_byte]
  simp only [Result.andThen, sliced, Int.toNat_natCast, base, Option.map_some, Nat.mul_one]
  congr 2
  split <;> simp [Addr.add] <;> omega
set_option maxRecDepth 100000 in
theorem slice_part (W : World) {g n c k m : Nat} (hk : k ≤ m) (hm : m ≤ c) : (Instr.sliceAt 45 (.slice (some ⟨g, 0, none⟩) n c) (some (.int .i64 (k : Int))) (some (.int .i64 (m : Int))) none).run Try.prog W = .ok (.slice (base g k c) (m - k) (c - k)) W := by
  rw [run_sliceAt_slice (P := Try.prog) W 45 _ _ _ _ elem_bytes, run_slice_lh (P := Try.prog) W 45 _ _ _ elem_bytes .i64 .i64 (k : Int) (m : Int) (by omega) (by omega) (by omega), size_byte]
  simp only [Result.andThen, sliced, Int.toNat_natCast, base, Option.map_some, Nat.mul_one]
  congr 2
  split <;> simp [Addr.add] <;> omega

section
variable {w : World} {g c : Nat} {b : List UInt8}
/-- a text as bytes -/
def strB (l : List UInt8) : ByteArray := ⟨l.toArray⟩
set_option maxRecDepth 100000 in
theorem Row.str (h : Row w g b) {k m : Nat} (hk : k ≤ m) (hm : m ≤ b.length) (hc : b.length ≤ c) : (convert 45 9 (.slice (base g k c) (m - k) (c - k))).run Try.prog w = .ok (.string (strB ((b.drop k).take (m - k)))) w := by
  have hl : ((b.drop k).take (m - k)).length = m - k := by simp; omega
  obtain ⟨o, ho⟩ := base_any g k c
  have hx := run_convert_bytes_back (P := Try.prog) w 45 9 5 ⟨g, o, none⟩ (c - k) ((b.drop k).take (m - k)) Try.underlying45 Try.underlying5 Try.underlying9 (by
    intro j hj
    rw [hl] at hj
    rw [base_lt (by omega)] at ho
    have e2 : o = k := by simp at ho; exact ho.symm
    subst e2
    have e : (⟨g, o, none⟩ : Addr).add j = ⟨g, o + j, none⟩ := by simp [Addr.add]
    rw [e, h.cell (by omega)]
    simp [List.getD_eq_getElem?_getD, List.getElem?_eq_getElem (show o + j < b.length by omega)])
  rw [hl] at hx
  rw [ho]
  exact hx
set_option maxRecDepth 100000 in
theorem Row.copy (h : Row w g b) (ty : TypeId) {k : Nat} {x : ByteArray} (hk : k + x.size ≤ b.length) (hc : b.length ≤ c) : (Builtin.copy_ #[45, 9] ty #[.slice (base g k c) (b.length - k) (c - k), .string x]).run Try.prog w = .ok (goInt x.size) (w.setCells g k (Lib.byteCells x.data.toList)) := by
  by_cases h0 : x.size = 0
  · rw [Lib.run_copy_empty_string w 45 9 ty 5 _ _ _ x Try.underlying45 (by kernel_rfl) h0, h0]
    have e : x.data.toList = [] := by
      have : x.data.toList.length = 0 := by rw [← h0]; rfl
      exact List.eq_nil_of_length_eq_zero this
    rw [e]
    rfl
  · rw [base_lt (by omega)]
    have hl : (Lib.byteCells x.data.toList).length = x.size := by rw [byteCells_len]; rfl
    have hst := run_storeCells_cells (P := Try.prog) g k (Lib.byteCells x.data.toList) 0 w (fun j hj => by rw [hl] at hj; rw [Nat.add_zero, h.cell (by omega)]; rfl) (fun j hj => by rw [hl] at hj; rw [Nat.add_zero]; exact h.free (by omega)) (Lib.byteCells_one _)
    have hmin : Nat.min x.size (b.length - k) = x.size := Nat.min_eq_left (by omega)
    have htk : List.take x.size (List.map (fun b : UInt8 => Value.int IntKind.u8 (b.toNat : Int)) x.data.toList) = Lib.byteCells x.data.toList := by
      rw [List.take_of_length_le (by rw [List.length_map]; exact Nat.le_refl _)]
      rfl
    simp only [Nat.add_zero] at hst
    have hs := sz_byte
    cases hq : Try.prog.info? 5 with
    | none => simp [hq] at hs
    | some i =>
      simp [Builtin.copy_, run_underlying Try.underlying45, Builtin.lenOf, Builtin.firstCells, sizeOf, typeInfo, hq, hmin]
      rw [htk, hst]
      simp [Result.andThen]
set_option maxRecDepth 100000 in
/-- bytes are moved within the area -/
theorem Row.move (h : Row w g b) (ty : TypeId) {k lo hi : Nat} (h1 : lo ≤ hi) (h2 : hi ≤ b.length) (hk : k + (hi - lo) ≤ b.length) (hc : b.length ≤ c) : (Builtin.copy_ #[45, 45] ty #[.slice (base g k c) (b.length - k) (c - k), .slice (base g lo c) (hi - lo) (c - lo)]).run Try.prog w = .ok (goInt ((hi - lo : Nat) : Int)) (w.setCells g k (Lib.byteCells ((b.drop lo).take (hi - lo)))) := by
  have hl : ((b.drop lo).take (hi - lo)).length = hi - lo := by simp; omega
  by_cases h0 : hi - lo = 0
  · obtain ⟨o1, e1⟩ := base_any g k c
    obtain ⟨o2, e2⟩ := base_any g lo c
    rw [run_copy_none w 45 45 ty 5 _ _ _ _ _ _ Try.underlying45 sz_byte (by rw [h0]; exact Nat.min_eq_left (Nat.zero_le _)), h0, List.take_zero]
    rfl
  · rw [base_lt (by omega), base_lt (show lo < c by omega)]
    have hb : (Lib.byteCells ((b.drop lo).take (hi - lo))).length = hi - lo := by rw [byteCells_len, hl]
    have := run_copy_cells w 45 45 ty 5 g k (b.length - k) (c - k) ⟨g, lo, none⟩ (hi - lo) (c - lo) (Lib.byteCells ((b.drop lo).take (hi - lo))) Try.underlying45 sz_byte
      (by rw [hb]; exact (Nat.min_eq_left (by omega)).symm)
      (by
        intro j v hv
        have hj : j < hi - lo := by have := (List.getElem?_eq_some_iff.1 hv).1; omega
        have e : (⟨g, lo, none⟩ : Addr).add j = ⟨g, lo + j, none⟩ := by simp [Addr.add]
        rw [e, h.cell (by omega), ← hv]
        simp [Lib.byteCells, hj, List.getD_eq_getElem?_getD, List.getElem?_eq_getElem (show lo + j < b.length by omega)])
      (fun j hj => by rw [h.cell (by omega)]; rfl) (fun j hj => h.free (by omega)) (Lib.byteCells_one _)
    rw [hb] at this
    exact this
set_option maxRecDepth 100000 in
theorem Row.clear (h : Row w g b) (ty : TypeId) {k m : Nat} (hk : k ≤ m) (hm : m ≤ b.length) (hc : b.length ≤ c) : (Builtin.clear_ #[45] ty #[.slice (base g k c) (m - k) (c - k)]).run Try.prog w = .ok (.tuple #[]) (w.setCells g k (Lib.byteCells (List.replicate (m - k) 0))) := by
  by_cases h0 : m - k = 0
  · obtain ⟨o1, e1⟩ := base_any g k c
    rw [h0, e1]
    simp [Builtin.clear_, run_underlying Try.underlying45, Lib.byteCells, World.setCells]
  · rw [base_lt (by omega)]
    have := Lib.run_clear_slice (P := Try.prog) w 45 5 ty (.int .u8 0) Try.underlying45 (fun w => by kernel_rfl) rfl rfl g k (m - k) (c - k) (by omega) (fun j hj => by rw [h.cell (by omega)]; rfl) (fun j hj => h.free (by omega))
    rw [this]
    congr 2
    simp [Lib.byteCells]
end

section
variable {w : World} {ops : Array Oper} {rest : List Oper} {o : Oper} {a : Act} {Q : Exit → Act → World → Prop} {g c : Nat} {b : List UInt8}
set_option maxRecDepth 100000 in
theorem wpList_copy_text (h : Row w g b) (hgd : o.guard = none) (d s : Operand) (ho : o.op = .call { callee := .builtin .copy, args := #[d, s], argTypes := #[45, 9] }) (k : Nat) (x : ByteArray) (hk : k + x.size ≤ b.length) (hc : b.length ≤ c)
    (hd : a.eval d = .slice (base g k c) (b.length - k) (c - k)) (hs : a.eval s = .string x) (hn : wpList Try.prog ops Q rest (a.put o.dst (goInt x.size)) (w.setCells g k (Lib.byteCells x.data.toList))) : wpList Try.prog ops Q (o :: rest) a w := by
  refine wpList_plain hgd fun K hK => ?_
  unfold Oper.wp execOp
  simp only [ho, resolve, invoke, builtin, Sem.run_bind, Sem.run_pure, Result.andThen_ok, List.map_toArray, List.map_cons, List.map_nil, hd, hs, h.copy o.type hk hc]
  exact hK _ _ hn
set_option maxRecDepth 100000 in
theorem wpList_copy_move (h : Row w g b) (hgd : o.guard = none) (d s : Operand) (ho : o.op = .call { callee := .builtin .copy, args := #[d, s], argTypes := #[45, 45] }) (k lo hi : Nat) (h1 : lo ≤ hi) (h2 : hi ≤ b.length) (hk : k + (hi - lo) ≤ b.length) (hc : b.length ≤ c)
    (hd : a.eval d = .slice (base g k c) (b.length - k) (c - k)) (hs : a.eval s = .slice (base g lo c) (hi - lo) (c - lo)) (hn : wpList Try.prog ops Q rest (a.put o.dst (goInt ((hi - lo : Nat) : Int))) (w.setCells g k (Lib.byteCells ((b.drop lo).take (hi - lo))))) : wpList Try.prog ops Q (o :: rest) a w := by
  refine wpList_plain hgd fun K hK => ?_
  unfold Oper.wp execOp
  simp only [ho, resolve, invoke, builtin, Sem.run_bind, Sem.run_pure, Result.andThen_ok, List.map_toArray, List.map_cons, List.map_nil, hd, hs, h.move o.type h1 h2 hk hc]
  exact hK _ _ hn
set_option maxRecDepth 100000 in
theorem wpList_clear (h : Row w g b) (hgd : o.guard = none) (d : Operand) (ho : o.op = .call { callee := .builtin .clear, args := #[d], argTypes := #[45] }) (k m : Nat) (hk : k ≤ m) (hm : m ≤ b.length) (hc : b.length ≤ c)
    (hd : a.eval d = .slice (base g k c) (m - k) (c - k)) (hn : wpList Try.prog ops Q rest (a.put o.dst (.tuple #[])) (w.setCells g k (Lib.byteCells (List.replicate (m - k) 0)))) : wpList Try.prog ops Q (o :: rest) a w := by
  refine wpList_plain hgd fun K hK => ?_
  unfold Oper.wp execOp
  simp only [ho, resolve, invoke, builtin, Sem.run_bind, Sem.run_pure, Result.andThen_ok, List.map_toArray, List.map_cons, List.map_nil, hd, h.clear o.type hk hm hc]
  exact hK _ _ hn
end

end Go.Proofs.Ytmandeohbiagfaa.Slot

namespace Go.Proofs.Ytmandeohbiagfaa.Slot

/-- what 'point' leaves -/
def pointB (b : List UInt8) (i : Nat) (x : Nat × Nat) : List UInt8 := putL (putL b (4 + 4 * i) (two x.1)) (6 + 4 * i) (two x.2)
/-- what 'stand' leaves -/
def standB (b : List UInt8) (t : List UInt8) : List UInt8 := putL (putL b (numL b 2 - t.length) t) 2 (two (numL b 2 - t.length))

/-- what the directory tells at place i -/
def spotB (b : List UInt8) (i : Nat) : Nat × Nat := (numL b (4 + 4 * i), numL b (6 + 4 * i))
theorem at_ins {l : List (Nat × Nat)} {i : Nat} (hi : i ≤ l.length) (x : Nat × Nat) (j : Nat) : (l.take i ++ x :: l.drop i).getD j (0, 0) = if j < i then l.getD j (0, 0) else if j = i then x else l.getD (j - 1) (0, 0) := by
  simp only [List.getD_eq_getElem?_getD]
  have hk : (l.take i).length = i := by rw [List.length_take]; omega
  by_cases c1 : j < i
  · rw [if_pos c1, List.getElem?_append_left (by omega), List.getElem?_take, if_pos c1]
  · rw [if_neg c1, List.getElem?_append_right (by omega), hk]
    by_cases c2 : j = i
    · subst c2; simp
    · rw [if_neg c2]
      obtain ⟨m, hm⟩ : ∃ m, j - i = m + 1 := ⟨j - i - 1, by omega⟩
      rw [hm, List.getElem?_cons_succ, List.getElem?_drop]
      congr 2; omega
theorem at_del {l : List (Nat × Nat)} {i : Nat} (hi : i < l.length) (j : Nat) : (l.take i ++ l.drop (i + 1)).getD j (0, 0) = if j < i then l.getD j (0, 0) else l.getD (j + 1) (0, 0) := by
  simp only [List.getD_eq_getElem?_getD]
  have hk : (l.take i).length = i := by rw [List.length_take]; omega
  by_cases c1 : j < i
  · rw [if_pos c1, List.getElem?_append_left (by omega), List.getElem?_take, if_pos c1]
  · rw [if_neg c1, List.getElem?_append_right (by omega), hk, List.getElem?_drop]
    congr 2; omega

section
variable {b : List UInt8} {a : A}
theorem Is.fin_le (h : Is b a) (hf : a.fin ≤ a.n) : 4 + 4 * a.dir.length ≤ b.length := by
  have := h.len; unfold A.fin at hf; omega
theorem pointB_len {x : Nat × Nat} {i : Nat} (hi : 8 + 4 * i ≤ b.length) : (pointB b i x).length = b.length := by
  unfold pointB
  have h1 : (putL b (4 + 4 * i) (two x.1)).length = b.length := putL_len (by rw [two_len]; omega)
  rw [putL_len (by rw [two_len, h1]; omega), h1]
theorem standB_len {t : List UInt8} (hb : 4 ≤ b.length) (ht : t.length ≤ numL b 2) (hl : numL b 2 ≤ b.length) : (standB b t).length = b.length := by
  unfold standB
  have h1 : (putL b (numL b 2 - t.length) t).length = b.length := putL_len (by omega)
  rw [putL_len (by rw [two_len, h1]; omega), h1]

theorem is_point (h : Is b a) (hf : a.fin ≤ a.n) {i : Nat} (hi : i < a.dir.length) {x : Nat × Nat} (h1 : x.1 < 65536) (h2 : x.2 < 65536) : Is (pointB b i x) ⟨a.cells, a.low, a.dir.set i x⟩ := by
  have hl := h.fin_le hf
  have k1 : (putL b (4 + 4 * i) (two x.1)).length = b.length := putL_len (by rw [two_len]; omega)
  have e1 : 4 + 4 * i + (two x.1).length ≤ b.length := by rw [two_len]; omega
  have e2 : 6 + 4 * i + (two x.2).length ≤ (putL b (4 + 4 * i) (two x.1)).length := by rw [two_len, k1]; omega
  have hfar : ∀ j, (j + 2 ≤ 4 + 4 * i ∨ 8 + 4 * i ≤ j) → numL (pointB b i x) j = numL b j := fun j hj => by
    unfold pointB
    rw [num_far e2 (by rw [two_len]; omega), num_far e1 (by rw [two_len]; omega)]
  refine ⟨?_, ?_, ?_, ?_, ?_⟩
  · rw [pointB_len (by omega)]; exact h.len
  · show _ = (a.dir.set i x).length
    rw [List.length_set, hfar 0 (by omega)]; exact h.cnt
  · rw [hfar 2 (by omega)]; exact h.low
  · intro j hj
    have hj' : j < a.dir.length := by simpa using hj
    have hat : A.at ⟨a.cells, a.low, a.dir.set i x⟩ j = if j = i then x else a.at j := at_set hi j
    rw [hat]
    by_cases e : j = i
    · subst e
      rw [if_pos rfl]
      refine ⟨?_, ?_⟩
      · unfold pointB
        rw [num_far e2 (by rw [two_len]; omega), num_put (by omega) h1]
      · unfold pointB
        rw [num_put (by omega) h2]
    · rw [if_neg e, hfar _ (by omega), hfar _ (by omega)]
      exact h.dir j hj'
  · intro j hj
    have hj' : a.fin ≤ j := by
      have : A.fin ⟨a.cells, a.low, a.dir.set i x⟩ = a.fin := by simp [A.fin]
      omega
    unfold A.fin at hj'
    unfold pointB
    rw [putL_out e2 (by rw [two_len]; omega), putL_out e1 (by rw [two_len]; omega)]
    exact h.rest j (by unfold A.fin; omega)

theorem is_low (h : Is b a) (hf : a.fin ≤ a.n) {v : Nat} (hv : v < 65536) : Is (putL b 2 (two v)) ⟨a.cells, v, a.dir⟩ := by
  have hl := h.fin_le hf
  have e1 : 2 + (two v).length ≤ b.length := by rw [two_len]; omega
  refine ⟨?_, ?_, ?_, ?_, ?_⟩
  · rw [putL_len e1]; exact h.len
  · rw [num_far e1 (by omega)]; exact h.cnt
  · rw [num_put (by omega) hv]
  · intro j hj
    rw [num_far e1 (by rw [two_len]; omega), num_far e1 (by rw [two_len]; omega)]
    exact h.dir j hj
  · intro j hj
    have hj' : a.fin ≤ j := hj
    rw [putL_out e1 (by rw [two_len]; unfold A.fin at hj'; omega)]
    exact h.rest j hj

/-- bytes behind the directory -/
theorem is_put (h : Is b a) (hf : a.fin ≤ a.n) {k : Nat} {t : List UInt8} (hk : a.fin ≤ k) (ht : k + t.length ≤ a.n) : Is (putL b k t) ⟨putL a.cells k t, a.low, a.dir⟩ := by
  have hl := h.fin_le hf
  have hlen := h.len
  have e1 : k + t.length ≤ b.length := by omega
  have e2 : k + t.length ≤ a.cells.length := ht
  have hk' := hk
  unfold A.fin at hk'
  refine ⟨?_, ?_, ?_, ?_, ?_⟩
  · rw [putL_len e1]
    show _ = (putL a.cells k t).length
    rw [putL_len e2]; exact h.len
  · rw [num_far e1 (by omega)]; exact h.cnt
  · rw [num_far e1 (by omega)]; exact h.low
  · intro j hj
    have hj' : j < a.dir.length := hj
    rw [num_far e1 (by omega), num_far e1 (by omega)]
    exact h.dir j hj
  · intro j hj
    show _ = (putL a.cells k t)[j]?
    rw [putL_at e1, putL_at e2]
    split
    · rfl
    · exact h.rest j hj

theorem is_stand (h : Is b a) (hf : a.fin ≤ a.n) {t : List UInt8} (hr : a.fin + t.length ≤ a.low) (hl : a.low ≤ a.n) (hn : a.n ≤ 4096) : Is (standB b t) ⟨a.lay t, a.low - t.length, a.dir⟩ := by
  have h1 := is_put h hf (k := a.low - t.length) (t := t) (by omega) (by omega)
  have e : (putL a.cells (a.low - t.length) t).length = a.cells.length := putL_len (by unfold A.n at hl; omega)
  have h2 := is_low h1 (by show a.fin ≤ (putL a.cells (a.low - t.length) t).length; rw [e]; exact hf) (v := a.low - t.length) (by omega)
  unfold standB
  rw [h.low]
  exact h2

/-- the directory's bytes from i on, one place further -/
def opened (b : List UInt8) (i n : Nat) : List UInt8 := putL (putL b (8 + 4 * i) ((b.drop (4 + 4 * i)).take (4 * (n - i)))) 0 (two (n + 1))
theorem part_at {b : List UInt8} {lo m : Nat} (_h : lo + m ≤ b.length) {j : Nat} (hj : j < m) : ((b.drop lo).take m)[j]? = b[lo + j]? := by
  rw [List.getElem?_take, if_pos hj, List.getElem?_drop]
theorem part_len {b : List UInt8} {lo m : Nat} (h : lo + m ≤ b.length) : ((b.drop lo).take m).length = m := by simp; omega

theorem is_open (h : Is b a) {i : Nat} (hi : i ≤ a.dir.length) (hr : a.fin + 4 ≤ a.n) (hn : a.n ≤ 4096) :
    Is (opened b i a.dir.length) ⟨a.cells, a.low, a.dir.take i ++ (spotB (opened b i a.dir.length) i) :: a.dir.drop i⟩ := by
  have hl := h.fin_le (by omega)
  have hlen := h.len
  unfold A.fin at hr
  have hp : ((b.drop (4 + 4 * i)).take (4 * (a.dir.length - i))).length = 4 * (a.dir.length - i) := part_len (by omega)
  have e1 : 8 + 4 * i + ((b.drop (4 + 4 * i)).take (4 * (a.dir.length - i))).length ≤ b.length := by rw [hp]; omega
  have k1 := putL_len e1
  have e2 : 0 + (two (a.dir.length + 1)).length ≤ (putL b (8 + 4 * i) ((b.drop (4 + 4 * i)).take (4 * (a.dir.length - i)))).length := by rw [two_len, k1]; omega
  have hfar : ∀ j, 2 ≤ j → (j + 2 ≤ 8 + 4 * i ∨ 8 + 4 * a.dir.length ≤ j) → numL (opened b i a.dir.length) j = numL b j := fun j h2 hj => by
    unfold opened
    rw [num_far e2 (by rw [two_len]; omega), num_far e1 (by rw [hp]; omega)]
  have hmov : ∀ j, 4 + 4 * i ≤ j → j + 2 ≤ 4 + 4 * a.dir.length → numL (opened b i a.dir.length) (j + 4) = numL b j := fun j h2 hj => by
    unfold opened
    rw [num_far e2 (by rw [two_len]; omega), num_in e1 (by omega) (by rw [hp]; omega), num_part (by omega)]
    congr 1; omega
  refine ⟨?_, ?_, ?_, ?_, ?_⟩
  · unfold opened; rw [putL_len e2, k1]; exact h.len
  · show _ = (a.dir.take i ++ _ :: a.dir.drop i).length
    unfold opened
    rw [num_put (by omega) (by omega)]
    simp; omega
  · rw [hfar 2 (by omega) (by omega)]; exact h.low
  · intro j hj
    have hj' : j < a.dir.length + 1 := by
      have e0 : (a.dir.take i ++ (spotB (opened b i a.dir.length) i) :: a.dir.drop i).length = a.dir.length + 1 := by simp; omega
      have hj2 : j < (a.dir.take i ++ (spotB (opened b i a.dir.length) i) :: a.dir.drop i).length := hj
      omega
    have hat : A.at ⟨a.cells, a.low, a.dir.take i ++ (spotB (opened b i a.dir.length) i) :: a.dir.drop i⟩ j = if j < i then a.at j else if j = i then spotB (opened b i a.dir.length) i else a.at (j - 1) := at_ins hi _ j
    rw [hat]
    by_cases c1 : j < i
    · rw [if_pos c1, hfar _ (by omega) (by omega), hfar _ (by omega) (by omega)]
      exact h.dir j (by omega)
    · rw [if_neg c1]
      by_cases c2 : j = i
      · subst c2
        rw [if_pos rfl]
        exact ⟨rfl, rfl⟩
      · rw [if_neg c2]
        have h3 := h.dir (j - 1) (by omega)
        have m1 := hmov (4 + 4 * (j - 1)) (by omega) (by omega)
        have m2 := hmov (6 + 4 * (j - 1)) (by omega) (by omega)
        rw [show 4 + 4 * (j - 1) + 4 = 4 + 4 * j by omega] at m1
        rw [show 6 + 4 * (j - 1) + 4 = 6 + 4 * j by omega] at m2
        rw [m1, m2]
        exact h3
  · intro j hj
    have hj' : 8 + 4 * a.dir.length ≤ j := by
      have e0 : (a.dir.take i ++ (spotB (opened b i a.dir.length) i) :: a.dir.drop i).length = a.dir.length + 1 := by simp; omega
      have hj2 : 4 + 4 * (a.dir.take i ++ (spotB (opened b i a.dir.length) i) :: a.dir.drop i).length ≤ j := hj
      omega
    unfold opened
    rw [putL_out e2 (by rw [two_len]; omega), putL_out e1 (by rw [hp]; omega)]
    exact h.rest j (by unfold A.fin; omega)

/-- the directory without place i -/
def shut (b : List UInt8) (i n : Nat) : List UInt8 := putL (putL (putL b (4 + 4 * i) ((b.drop (8 + 4 * i)).take (4 * (n - 1 - i)))) (4 * n) [0, 0, 0, 0]) 0 (two (n - 1))
theorem is_shut (h : Is b a) {i : Nat} (hi : i < a.dir.length) (hr : a.fin ≤ a.n) (hn : a.n ≤ 4096) : Is (shut b i a.dir.length) (a.del i) := by
  have hl := h.fin_le (by omega)
  have hlen := h.len
  unfold A.fin at hr
  have hp : ((b.drop (8 + 4 * i)).take (4 * (a.dir.length - 1 - i))).length = 4 * (a.dir.length - 1 - i) := part_len (by omega)
  have e1 : 4 + 4 * i + ((b.drop (8 + 4 * i)).take (4 * (a.dir.length - 1 - i))).length ≤ b.length := by rw [hp]; omega
  have k1 := putL_len e1
  have e2 : 4 * a.dir.length + ([0, 0, 0, 0] : List UInt8).length ≤ (putL b (4 + 4 * i) ((b.drop (8 + 4 * i)).take (4 * (a.dir.length - 1 - i)))).length := by rw [k1]; simp; omega
  have k2 := putL_len e2
  have e3 : 0 + (two (a.dir.length - 1)).length ≤ (putL (putL b (4 + 4 * i) ((b.drop (8 + 4 * i)).take (4 * (a.dir.length - 1 - i)))) (4 * a.dir.length) [0, 0, 0, 0]).length := by rw [two_len, k2, k1]; omega
  have hfar : ∀ j, 2 ≤ j → j + 2 ≤ 4 + 4 * i → numL (shut b i a.dir.length) j = numL b j := fun j h2 hj => by
    unfold shut
    rw [num_far e3 (by rw [two_len]; omega), num_far e2 (by simp; omega), num_far e1 (by rw [hp]; omega)]
  have hmov : ∀ j, 4 + 4 * i ≤ j → j + 2 ≤ 4 * a.dir.length → numL (shut b i a.dir.length) j = numL b (j + 4) := fun j h2 hj => by
    unfold shut
    rw [num_far e3 (by rw [two_len]; omega), num_far e2 (by simp; omega), num_in e1 (by omega) (by rw [hp]; omega), num_part (by omega)]
    congr 1; omega
  have e4 : a.fin - 4 + ([0, 0, 0, 0] : List UInt8).length ≤ a.cells.length := by
    have : a.cells.length = a.n := rfl
    unfold A.fin; simp; omega
  have hdl : (a.dir.take i ++ a.dir.drop (i + 1)).length = a.dir.length - 1 := by simp; omega
  refine ⟨?_, ?_, ?_, ?_, ?_⟩
  · unfold shut
    rw [putL_len e3, k2, k1]
    show _ = (putL a.cells (a.fin - 4) [0, 0, 0, 0]).length
    rw [putL_len e4]; exact h.len
  · show _ = (a.dir.take i ++ a.dir.drop (i + 1)).length
    unfold shut
    rw [num_put (by omega) (by omega), hdl]
  · rw [hfar 2 (by omega) (by omega)]; exact h.low
  · intro j hj
    have hj' : j < a.dir.length - 1 := by rw [← hdl]; exact hj
    have hat : (a.del i).at j = if j < i then a.at j else a.at (j + 1) := at_del hi j
    rw [hat]
    by_cases c1 : j < i
    · rw [if_pos c1, hfar _ (by omega) (by omega), hfar _ (by omega) (by omega)]
      exact h.dir j (by omega)
    · rw [if_neg c1, hmov _ (by omega) (by omega), hmov _ (by omega) (by omega)]
      have h3 := h.dir (j + 1) (by omega)
      rw [show 4 + 4 * (j + 1) = 4 + 4 * j + 4 by omega, show 6 + 4 * (j + 1) = 6 + 4 * j + 4 by omega] at h3
      exact h3
  · intro j hj
    have hj' : 4 * a.dir.length ≤ j := by
      have hj2 : 4 + 4 * (a.dir.take i ++ a.dir.drop (i + 1)).length ≤ j := hj
      omega
    show _ = (putL a.cells (a.fin - 4) [0, 0, 0, 0])[j]?
    unfold shut
    rw [putL_out e3 (by rw [two_len]; omega), putL_at e2, putL_at e4]
    have ef : a.fin - 4 = 4 * a.dir.length := by unfold A.fin; omega
    rw [ef]
    split
    · rfl
    · rename_i hc
      rw [putL_out e1 (by rw [hp]; simp at hc; omega)]
      exact h.rest j (by simp at hc; unfold A.fin; omega)
end

end Go.Proofs.Ytmandeohbiagfaa.Slot

namespace Go.Proofs.Ytmandeohbiagfaa.Slot

section
variable {a : A}
theorem each_mem (h : a.ok) {x : Nat × Nat} (hx : x ∈ a.dir) : a.low ≤ x.1 ∧ x.1 + x.2 ≤ a.n := by
  obtain ⟨i, hi, rfl⟩ := List.getElem_of_mem hx
  rw [at_elem hi]
  exact h.each i hi
theorem texts_len : a.texts.length = a.dir.length := by simp [A.texts]
theorem texts_at {i : Nat} (hi : i < a.dir.length) : a.texts[i]? = some (a.text i) := by
  unfold A.texts A.text
  rw [List.getElem?_map, at_get hi]; rfl
theorem lay_len (h : a.ok) {t : List UInt8} (ht : t.length ≤ a.low) : (a.lay t).length = a.n := by
  unfold A.lay
  have := h.low
  rw [putL_len (by show a.low - t.length + t.length ≤ a.n; omega)]; rfl
theorem lay_far (h : a.ok) {t : List UInt8} (ht : t.length ≤ a.low) {x : Nat × Nat} (hx : a.low ≤ x.1) : txt (a.lay t) x = txt a.cells x := by
  have := h.low
  refine txt_far (by show a.low - t.length + t.length ≤ a.n; omega) (.inr (.inr (.inl ?_)))
  show a.low - t.length + t.length ≤ x.1
  omega
theorem lay_in (h : a.ok) {t : List UInt8} (ht : t.length ≤ a.low) : txt (a.lay t) (a.low - t.length, t.length) = t := by
  have := h.low
  exact txt_put (by show a.low - t.length + t.length ≤ a.n; omega)

/-! ### a text more -/
theorem putAt_ok (h : a.ok) {i : Nat} (hi : i ≤ a.dir.length) {t : List UInt8} (hr : a.fin + 4 + t.length ≤ a.low) : (a.putAt i t).ok := by
  have hl : (a.putAt i t).n = a.n := lay_len h (by omega)
  have hd : (a.putAt i t).dir.length = a.dir.length + 1 := by simp [A.putAt]; omega
  have hf : (a.putAt i t).fin = a.fin + 4 := by unfold A.fin; rw [hd]; omega
  have hat : ∀ j, (a.putAt i t).at j = if j < i then a.at j else if j = i then (a.low - t.length, t.length) else a.at (j - 1) := fun j => at_ins hi _ j
  have hlow : (a.putAt i t).low = a.low - t.length := rfl
  have h1 := h.low
  refine ⟨by rw [hl]; exact h.lo, by rw [hl]; exact h.hi, by omega, by omega, ?_, ?_, ?_⟩
  · intro j hj
    rw [hd] at hj
    rw [hat, hl, hlow]
    split
    · have := h.each j (by omega); omega
    · split
      · simp only; omega
      · have := h.each (j - 1) (by omega); omega
  · intro j k hj hk hjk
    rw [hd] at hj hk
    rw [hat, hat]
    have hlo : ∀ m, m < a.dir.length → clear (a.low - t.length, t.length) (a.at m) ∧ clear (a.at m) (a.low - t.length, t.length) := fun m hm => by
      have := h.each m hm
      unfold clear; simp only; omega
    split
    · split
      · exact h.apart j k (by omega) (by omega) hjk
      · split
        · exact (hlo j (by omega)).2
        · exact h.apart j (k - 1) (by omega) (by omega) (by omega)
    · split
      · split
        · exact (hlo k (by omega)).1
        · split
          · omega
          · exact (hlo (k - 1) (by omega)).1
      · split
        · exact h.apart (j - 1) k (by omega) (by omega) (by omega)
        · split
          · exact (hlo (j - 1) (by omega)).2
          · exact h.apart (j - 1) (k - 1) (by omega) (by omega) (by omega)
  · have ht : tot (a.putAt i t).dir = tot a.dir + t.length := by
      show tot (a.dir.take i ++ _ :: a.dir.drop i) = _
      rw [tot_app, tot_cons]
      have := tot_split a.dir i
      simp only
      omega
    have := h.room
    rw [ht, hl, hlow]; omega
theorem putAt_texts (h : a.ok) {i : Nat} {t : List UInt8} (ht : t.length ≤ a.low) : (a.putAt i t).texts = a.texts.take i ++ t :: a.texts.drop i := by
  have hm : ∀ x ∈ a.dir, txt (a.lay t) x = txt a.cells x := fun x hx => lay_far h ht (each_mem h hx).1
  show (a.dir.take i ++ (a.low - t.length, t.length) :: a.dir.drop i).map (txt (a.lay t)) = _
  rw [List.map_append, List.map_cons, lay_in h ht]
  unfold A.texts
  rw [← List.map_take, ← List.map_drop]
  congr 1
  · exact List.map_congr_left fun x hx => hm x (List.mem_of_mem_take hx)
  · congr 1
    exact List.map_congr_left fun x hx => hm x (List.mem_of_mem_drop hx)

/-! ### another text at a place -/
theorem set_ok (h : a.ok) {c : List UInt8} (hc : c.length = a.n) {l : Nat} (hl : a.fin ≤ l) (hl2 : l ≤ a.low) {i : Nat} (hi : i < a.dir.length) {x : Nat × Nat} (h1 : l ≤ x.1) (h2 : x.1 + x.2 ≤ a.n)
    (h3 : ∀ j, j < a.dir.length → j ≠ i → clear x (a.at j)) (h4 : l + tot a.dir + x.2 ≤ a.n + (a.at i).2) : A.ok ⟨c, l, a.dir.set i x⟩ := by
  have hn : A.n ⟨c, l, a.dir.set i x⟩ = a.n := hc
  have hd : (a.dir.set i x).length = a.dir.length := List.length_set
  have hat : ∀ j, A.at ⟨c, l, a.dir.set i x⟩ j = if j = i then x else a.at j := fun j => at_set hi j
  have hlow := h.low
  refine ⟨by rw [hn]; exact h.lo, by rw [hn]; exact h.hi, ?_, ?_, ?_, ?_, ?_⟩
  · show 4 + 4 * (a.dir.set i x).length ≤ l
    rw [hd]; exact hl
  · rw [hn]; show l ≤ _; omega
  · intro j hj
    have hj' : j < a.dir.length := by rw [← hd]; exact hj
    rw [hat, hn]
    show l ≤ _ ∧ _
    split
    · exact ⟨h1, h2⟩
    · have := h.each j hj'; omega
  · intro j k hj hk hjk
    have hj' : j < a.dir.length := by rw [← hd]; exact hj
    have hk' : k < a.dir.length := by rw [← hd]; exact hk
    rw [hat, hat]
    split
    · split
      · omega
      · exact h3 k hk' (by omega)
    · split
      · have := h3 j hj' (by omega)
        unfold clear at this ⊢; omega
      · exact h.apart j k hj' hk' hjk
  · rw [hn]
    show l + tot (a.dir.set i x) ≤ _
    have e := tot_set hi x
    have e2 : a.dir.getD i (0, 0) = a.at i := rfl
    rw [e2] at e
    omega
theorem setAt_ok (h : a.ok) {i : Nat} (hi : i < a.dir.length) {t : List UInt8} (hr : a.fin + t.length ≤ a.low) : (a.setAt i t).ok := by
  have := h.low
  have := h.room
  refine set_ok h (lay_len h (by omega)) (by omega) (by omega) hi (Nat.le_refl _) (by simp only; omega) (fun j hj _ => ?_) (by simp only; omega)
  have := h.each j hj
  unfold clear; simp only; omega
theorem setAt_texts (h : a.ok) {i : Nat} {t : List UInt8} (ht : t.length ≤ a.low) : (a.setAt i t).texts = a.texts.set i t := by
  have hm : ∀ x ∈ a.dir, txt (a.lay t) x = txt a.cells x := fun x hx => lay_far h ht (each_mem h hx).1
  show (a.dir.set i (a.low - t.length, t.length)).map (txt (a.lay t)) = _
  rw [List.map_set, lay_in h ht, List.map_congr_left hm]
  rfl
theorem inPlace_ok (h : a.ok) {i : Nat} (hi : i < a.dir.length) {t : List UInt8} (ht : t.length ≤ (a.at i).2) : (a.inPlace i t).ok := by
  have he := h.each i hi
  have hr := h.room
  refine set_ok h (putL_len (by show (a.at i).1 + t.length ≤ a.n; omega)) h.fin (Nat.le_refl _) hi he.1 (by simp only; omega) (fun j hj hji => ?_) (by simp only; omega)
  have := h.apart i j hi hj (by omega)
  unfold clear at this ⊢; simp only; omega
theorem inPlace_texts (h : a.ok) {i : Nat} (hi : i < a.dir.length) {t : List UInt8} (ht : t.length ≤ (a.at i).2) : (a.inPlace i t).texts = a.texts.set i t := by
  have he := h.each i hi
  have hle : (a.at i).1 + t.length ≤ a.cells.length := by show _ ≤ a.n; omega
  have hd : (a.inPlace i t).dir.length = a.dir.length := List.length_set
  have hat : ∀ j, (a.inPlace i t).at j = if j = i then ((a.at i).1, t.length) else a.at j := fun j => at_set hi j
  apply List.ext_getElem?
  intro j
  by_cases hj : j < a.dir.length
  · rw [texts_at (by rw [hd]; exact hj), List.getElem?_set]
    show some (txt (putL a.cells (a.at i).1 t) ((a.inPlace i t).at j)) = _
    rw [hat]
    by_cases e : i = j
    · subst e
      rw [if_pos rfl, if_pos rfl, if_pos (by rw [texts_len]; exact hi), txt_put hle]
    · rw [if_neg (fun h => e h.symm), if_neg e, texts_at hj]
      congr 1
      refine txt_far hle ?_
      have := h.apart i j hi hj e
      unfold clear at this ⊢; simp only; omega
  · rw [List.getElem?_eq_none (by rw [texts_len, hd]; omega), List.getElem?_eq_none (by rw [List.length_set, texts_len]; omega)]
theorem hollow_ok (h : a.ok) {i : Nat} (hi : i < a.dir.length) : (a.hollow i).ok := by
  have he := h.each i hi
  have hr := h.room
  refine set_ok h rfl h.fin (Nat.le_refl _) hi he.1 (by simp only; omega) (fun j hj hji => .inl rfl) (by simp only; omega)
theorem hollow_free (h : a.ok) {i : Nat} (hi : i < a.dir.length) : (a.hollow i).free = a.free + (a.at i).2 ∧ (a.hollow i).n = a.n ∧ (a.hollow i).fin = a.fin ∧ (a.hollow i).dir.length = a.dir.length := by
  have hd : (a.dir.set i ((a.at i).1, 0)).length = a.dir.length := List.length_set
  have e := tot_set hi ((a.at i).1, 0)
  have e2 : a.dir.getD i (0, 0) = a.at i := rfl
  have hr := h.room
  have hf := h.fin
  refine ⟨?_, rfl, ?_, hd⟩
  · show a.n - (4 + 4 * (a.dir.set i ((a.at i).1, 0)).length) - tot (a.dir.set i ((a.at i).1, 0)) = a.n - (4 + 4 * a.dir.length) - tot a.dir + _
    unfold A.fin at hf
    rw [hd]
    rw [e2] at e
    simp only at e
    omega
  · show 4 + 4 * (a.dir.set i ((a.at i).1, 0)).length = _
    rw [hd]; rfl
theorem hollow_texts {i : Nat} : (a.hollow i).texts = a.texts.set i (txt a.cells ((a.at i).1, 0)) := by
  show (a.dir.set i ((a.at i).1, 0)).map (txt a.cells) = _
  rw [List.map_set]
  rfl
theorem compact_texts (h : a.ok) : a.compact.texts = a.texts := by
  obtain ⟨h1, h2, h3, h4, h5⟩ := compact_all h
  apply List.ext_getElem?
  intro j
  by_cases hj : j < a.dir.length
  · rw [texts_at (by rw [h2]; exact hj), texts_at hj, (h5 j hj).2]
  · rw [List.getElem?_eq_none (by rw [texts_len, h2]; omega), List.getElem?_eq_none (by rw [texts_len]; omega)]

/-! ### a text less -/
theorem del_all (h : a.ok) {i : Nat} (hi : i < a.dir.length) : (a.del i).n = a.n ∧ (a.del i).dir.length + 1 = a.dir.length ∧ (a.del i).fin + 4 = a.fin ∧ tot (a.del i).dir + (a.at i).2 = tot a.dir := by
  have hf := h.fin
  have hl := h.low
  have e4 : a.fin - 4 + ([0, 0, 0, 0] : List UInt8).length ≤ a.cells.length := by
    have : a.cells.length = a.n := rfl
    have : 4 ≤ a.fin := by unfold A.fin; omega
    simp; omega
  have hd : (a.del i).dir.length + 1 = a.dir.length := by
    show (a.dir.take i ++ a.dir.drop (i + 1)).length + 1 = _
    simp; omega
  refine ⟨putL_len e4, hd, by unfold A.fin; omega, ?_⟩
  show tot (a.dir.take i ++ a.dir.drop (i + 1)) + _ = _
  rw [tot_app]
  have h1 := tot_split a.dir (i + 1)
  have h2 := tot_take hi
  have e2 : a.dir.getD i (0, 0) = a.at i := rfl
  rw [e2] at h2
  omega
theorem del_ok (h : a.ok) {i : Nat} (hi : i < a.dir.length) : (a.del i).ok := by
  obtain ⟨h1, h2, h3, h4⟩ := del_all h hi
  have hf := h.fin
  have hl := h.low
  have hr := h.room
  have hlow : (a.del i).low = a.low := rfl
  have hat : ∀ j, (a.del i).at j = if j < i then a.at j else a.at (j + 1) := fun j => at_del hi j
  refine ⟨by rw [h1]; exact h.lo, by rw [h1]; exact h.hi, by omega, by omega, ?_, ?_, by omega⟩
  · intro j hj
    rw [hat, h1, hlow]
    split
    · exact h.each j (by omega)
    · exact h.each (j + 1) (by omega)
  · intro j k hj hk hjk
    rw [hat, hat]
    split
    · split
      · exact h.apart j k (by omega) (by omega) hjk
      · exact h.apart j (k + 1) (by omega) (by omega) (by omega)
    · split
      · exact h.apart (j + 1) k (by omega) (by omega) (by omega)
      · exact h.apart (j + 1) (k + 1) (by omega) (by omega) (by omega)
theorem del_texts (h : a.ok) {i : Nat} (_hi : i < a.dir.length) : (a.del i).texts = a.texts.take i ++ a.texts.drop (i + 1) := by
  have hf := h.fin
  have hl := h.low
  have e4 : a.fin - 4 + ([0, 0, 0, 0] : List UInt8).length ≤ a.cells.length := by
    have : a.cells.length = a.n := rfl
    have : 4 ≤ a.fin := by unfold A.fin; omega
    simp; omega
  have hm : ∀ x ∈ a.dir, txt (putL a.cells (a.fin - 4) [0, 0, 0, 0]) x = txt a.cells x := fun x hx => by
    refine txt_far e4 (.inr (.inr (.inl ?_)))
    have := (each_mem h hx).1
    have : 4 ≤ a.fin := by unfold A.fin; omega
    simp; omega
  show (a.dir.take i ++ a.dir.drop (i + 1)).map (txt (putL a.cells (a.fin - 4) [0, 0, 0, 0])) = _
  rw [List.map_append]
  unfold A.texts
  rw [← List.map_take, ← List.map_drop]
  congr 1
  · exact List.map_congr_left fun x hx => hm x (List.mem_of_mem_take hx)
  · exact List.map_congr_left fun x hx => hm x (List.mem_of_mem_drop hx)

/-! ### a new one -/
theorem new_ok {n : Nat} (h1 : 16 ≤ n) (h2 : n ≤ 4096) : (A.new n).ok := by
  have hn : (A.new n).n = n := by simp [A.new, A.n]
  refine ⟨by omega, by omega, by show 4 + 4 * 0 ≤ n; omega, by rw [hn]; exact Nat.le_refl _, fun i hi => ?_, fun i j hi => ?_, by rw [hn]; simp [A.new, tot]⟩
  · simp [A.new] at hi
  · simp [A.new] at hi
end

/-! ### what the calls answer -/
def putE (a : A) (at_ : Int) (t : List UInt8) : Int := if at_ < 0 ∨ (a.dir.length : Int) < at_ then 2 else if a.free < t.length + 4 then 4 else 0
def room (a : A) (n : Nat) : A := if a.gap < n then a.compact else a
def putA (a : A) (at_ : Int) (t : List UInt8) : A := if putE a at_ t = 0 then (room a (t.length + 4)).putAt at_.toNat t else a
def hasP (a : A) (at_ : Int) : Prop := 0 ≤ at_ ∧ at_ < (a.dir.length : Int)
instance (a : A) (at_ : Int) : Decidable (hasP a at_) := by unfold hasP; infer_instance
def setE (a : A) (at_ : Int) (t : List UInt8) : Int := if ¬ hasP a at_ then 3 else if t.length ≤ (a.at at_.toNat).2 then 0 else if a.free < t.length - (a.at at_.toNat).2 then 4 else 0
def setA (a : A) (at_ : Int) (t : List UInt8) : A := if setE a at_ t ≠ 0 then a else if t.length ≤ (a.at at_.toNat).2 then a.inPlace at_.toNat t else (if a.gap < t.length then (a.hollow at_.toNat).compact else a).setAt at_.toNat t
def remE (a : A) (at_ : Int) : Int := if hasP a at_ then 0 else 3
def remA (a : A) (at_ : Int) : A := if hasP a at_ then a.del at_.toNat else a
def getS (a : A) (at_ : Int) : List UInt8 := if hasP a at_ then a.text at_.toNat else []

section
variable {a : A}
theorem room_all (h : a.ok) (n : Nat) : (room a n).ok ∧ (room a n).n = a.n ∧ (room a n).dir.length = a.dir.length ∧ (room a n).fin = a.fin ∧ (n ≤ a.free → a.fin + n ≤ (room a n).low) ∧ (room a n).texts = a.texts := by
  unfold room
  obtain ⟨f1, f2, f3⟩ := ok_free h
  split
  · have hk := compact_ok h
    obtain ⟨g1, g2, g3⟩ := compact_gap h
    obtain ⟨k1, k2, k3, k4, k5⟩ := compact_all h
    have := (ok_free hk).2.2
    exact ⟨hk, k1, k2, g3, fun _ => by omega, compact_texts h⟩
  · exact ⟨h, rfl, rfl, rfl, fun _ => by omega, rfl⟩
theorem putA_ok (h : a.ok) (i : Int) (t : List UInt8) : (putA a i t).ok := by
  unfold putA
  split
  · rename_i e
    unfold putE at e
    split at e
    · simp at e
    · split at e
      · simp at e
      · obtain ⟨r1, r2, r3, r4, r5, _⟩ := room_all h (t.length + 4)
        have := r5 (by omega)
        exact putAt_ok r1 (by rw [r3]; omega) (by omega)
  · exact h
theorem putA_texts (h : a.ok) {i : Int} {t : List UInt8} (e : putE a i t = 0) : (putA a i t).texts = a.texts.take i.toNat ++ t :: a.texts.drop i.toNat := by
  unfold putA
  rw [if_pos e]
  unfold putE at e
  split at e
  · simp at e
  · split at e
    · simp at e
    · obtain ⟨r1, r2, r3, r4, r5, r6⟩ := room_all h (t.length + 4)
      have := r5 (by omega)
      rw [putAt_texts r1 (by omega), r6]
theorem setL_all (h : a.ok) {i : Nat} (hi : i < a.dir.length) {t : List UInt8} (h1 : (a.at i).2 < t.length) (h2 : t.length - (a.at i).2 ≤ a.free) :
    (if a.gap < t.length then (a.hollow i).compact else a).ok ∧ (if a.gap < t.length then (a.hollow i).compact else a).dir.length = a.dir.length ∧ a.fin + t.length ≤ (if a.gap < t.length then (a.hollow i).compact else a).low ∧ (if a.gap < t.length then (a.hollow i).compact else a).fin = a.fin ∧ (if a.gap < t.length then (a.hollow i).compact else a).n = a.n ∧ (if a.gap < t.length then (a.hollow i).compact else a).texts.set i t = a.texts.set i t := by
  obtain ⟨f1, f2, f3⟩ := ok_free h
  split
  · have hh := hollow_ok h hi
    obtain ⟨e1, e2, e3, e4⟩ := hollow_free h hi
    have hk := compact_ok hh
    obtain ⟨g1, g2, g3⟩ := compact_gap hh
    obtain ⟨k1, k2, k3, k4, k5⟩ := compact_all hh
    have := (ok_free hk).2.2
    refine ⟨hk, by omega, by omega, by omega, by omega, ?_⟩
    rw [compact_texts hh, hollow_texts, List.set_set]
  · exact ⟨h, rfl, by omega, rfl, rfl, rfl⟩
theorem setA_ok (h : a.ok) (i : Int) (t : List UInt8) : (setA a i t).ok := by
  unfold setA
  split
  · exact h
  · rename_i e
    unfold setE at e
    split at e
    · simp at e
    · rename_i hh
      have hp : hasP a i := Classical.not_not.1 hh
      unfold hasP at hp
      split
      · exact inPlace_ok h (by omega) (by assumption)
      · rename_i hs
        rw [if_neg hs] at e
        split at e
        · simp at e
        · obtain ⟨r1, r2, r3, r4, r5, r6⟩ := setL_all h (i := i.toNat) (by omega) (t := t) (by omega) (by omega)
          exact setAt_ok r1 (by rw [r2]; omega) (by rw [r4]; exact r3)
theorem setA_texts (h : a.ok) {i : Int} {t : List UInt8} (e : setE a i t = 0) : (setA a i t).texts = a.texts.set i.toNat t ∧ hasP a i := by
  unfold setA
  rw [if_neg (by simp [e])]
  unfold setE at e
  split at e
  · simp at e
  · rename_i hh
    have hp : hasP a i := Classical.not_not.1 hh
    refine ⟨?_, hp⟩
    unfold hasP at hp
    split
    · exact inPlace_texts h (by omega) (by assumption)
    · rename_i hs
      rw [if_neg hs] at e
      split at e
      · simp at e
      · obtain ⟨r1, r2, r3, r4, r5, r6⟩ := setL_all h (i := i.toNat) (by omega) (t := t) (by omega) (by omega)
        rw [setAt_texts r1 (by omega), r6]
theorem remA_ok (h : a.ok) (i : Int) : (remA a i).ok := by
  unfold remA
  split
  · rename_i hp
    unfold hasP at hp
    exact del_ok h (by omega)
  · exact h
end

end Go.Proofs.Ytmandeohbiagfaa.Slot

namespace Go.Proofs.Ytmandeohbiagfaa.Slot

section
variable {b : List UInt8} {a : A}
theorem set_at_mid {T : Type} (l m : List T) (x y : T) : (l ++ x :: m).set l.length y = l ++ y :: m := by simp
theorem stand_all (h : Is b a) (hf : a.fin ≤ a.n) {t : List UInt8} (hr : a.fin + t.length ≤ a.low) (hl : a.low ≤ a.n) (hn : a.n ≤ 4096) {i : Nat} (hi : i < a.dir.length) :
    Is (pointB (standB b t) i (a.low - t.length, t.length)) (a.setAt i t) ∧ (standB b t).length = a.n := by
  have hs := is_stand h hf hr hl hn
  have hlen : (standB b t).length = a.n := by
    rw [hs.len]
    show (a.lay t).length = a.n
    unfold A.lay
    rw [putL_len (by show _ ≤ a.n; omega)]; rfl
  have hl2 : (a.lay t).length = a.n := by rw [← hlen, hs.len]; rfl
  exact ⟨is_point hs (by show a.fin ≤ (a.lay t).length; rw [hl2]; exact hf) hi (by simp only; omega) (by simp only; omega), hlen⟩
theorem put_all (h : Is b a) (hk : a.ok) {i : Nat} (hi : i ≤ a.dir.length) {t : List UInt8} (hr : a.fin + 4 + t.length ≤ a.low) :
    Is (pointB (standB (opened b i a.dir.length) t) i (a.low - t.length, t.length)) (a.putAt i t) ∧ numL (opened b i a.dir.length) 2 = a.low ∧ (opened b i a.dir.length).length = a.n ∧ (standB (opened b i a.dir.length) t).length = a.n := by
  have hl := hk.low
  have ho := is_open h hi (by omega) hk.hi
  have hn : (opened b i a.dir.length).length = a.n := ho.len
  have hd : (a.dir.take i ++ (spotB (opened b i a.dir.length) i) :: a.dir.drop i).length = a.dir.length + 1 := by simp; omega
  have hf : A.fin ⟨a.cells, a.low, a.dir.take i ++ (spotB (opened b i a.dir.length) i) :: a.dir.drop i⟩ = a.fin + 4 := by unfold A.fin; rw [hd]; omega
  obtain ⟨h1, h2⟩ := stand_all ho (by rw [hf]; show _ ≤ a.n; omega) (t := t) (by rw [hf]; exact hr) hl hk.hi (i := i) (by show i < (a.dir.take i ++ (spotB (opened b i a.dir.length) i) :: a.dir.drop i).length; rw [hd]; omega)
  refine ⟨?_, ho.low, hn, h2⟩
  have e : A.setAt ⟨a.cells, a.low, a.dir.take i ++ (spotB (opened b i a.dir.length) i) :: a.dir.drop i⟩ i t = a.putAt i t := by
    show A.mk _ _ ((a.dir.take i ++ (spotB (opened b i a.dir.length) i) :: a.dir.drop i).set i (a.low - t.length, t.length)) = A.mk _ _ _
    congr 1
    have hk : (a.dir.take i).length = i := by rw [List.length_take]; omega
    have := set_at_mid (a.dir.take i) (a.dir.drop i) (spotB (opened b i a.dir.length) i) (a.low - t.length, t.length)
    rwa [hk] at this
  rw [← e]
  exact h1
theorem inPlace_all (h : Is b a) (hk : a.ok) {i : Nat} (hi : i < a.dir.length) {t : List UInt8} (ht : t.length ≤ (a.at i).2) :
    Is (pointB (putL b (a.at i).1 t) i ((a.at i).1, t.length)) (a.inPlace i t) ∧ (putL b (a.at i).1 t).length = a.n := by
  have he := hk.each i hi
  have hf := hk.fin
  have hl := hk.low
  have hhi := hk.hi
  have h1 := is_put h (by omega) (k := (a.at i).1) (t := t) (by omega) (by omega)
  have hl2 : (putL a.cells (a.at i).1 t).length = a.n := by rw [putL_len (by show _ ≤ a.n; omega)]; rfl
  exact ⟨is_point h1 (by show a.fin ≤ (putL a.cells (a.at i).1 t).length; rw [hl2]; omega) hi (by simp only; omega) (by simp only; omega), by rw [h1.len]; exact hl2⟩
theorem hollow_all (h : Is b a) (hk : a.ok) {i : Nat} (hi : i < a.dir.length) : Is (pointB b i ((a.at i).1, 0)) (a.hollow i) := by
  have he := hk.each i hi
  have hf := hk.fin
  have hl := hk.low
  have hhi := hk.hi
  exact is_point h (by omega) hi (by simp only; omega) (by simp only; omega)
end

end Go.Proofs.Ytmandeohbiagfaa.Slot

namespace Go.Proofs.Ytmandeohbiagfaa.Slot

def dirB (l : List (Nat × Nat)) : List UInt8 := l.flatMap fun x => two x.1 ++ two x.2
def imgA (a : A) : List UInt8 := two a.dir.length ++ (two a.low ++ (dirB a.dir ++ a.cells.drop a.fin))

theorem dirB_cons (x : Nat × Nat) (l : List (Nat × Nat)) : dirB (x :: l) = two x.1 ++ (two x.2 ++ dirB l) := by simp [dirB]
theorem dirB_len (l : List (Nat × Nat)) : (dirB l).length = 4 * l.length := by
  induction l with
  | nil => rfl
  | cons x l ih => rw [dirB_cons]; simp [two_len, ih]; omega
theorem num_app (l m : List UInt8) (k : Nat) : numL (l ++ m) (l.length + k) = numL m k :=
  num_congr (by rw [List.getElem?_append_right (by omega)]; congr 1; omega) (by rw [List.getElem?_append_right (by omega)]; congr 1; omega)
theorem num_head {l m : List UInt8} {k : Nat} (h : k + 2 ≤ l.length) : numL (l ++ m) k = numL l k :=
  num_congr (List.getElem?_append_left (by omega)) (List.getElem?_append_left (by omega))
theorem num_dir : ∀ (l : List (Nat × Nat)) (r : List UInt8) (i : Nat), i < l.length → (∀ x ∈ l, x.1 < 65536 ∧ x.2 < 65536) → numL (dirB l ++ r) (4 * i) = (l.getD i (0, 0)).1 ∧ numL (dirB l ++ r) (2 + 4 * i) = (l.getD i (0, 0)).2
  | [], _, _, h, _ => by simp at h
  | x :: l, r, i, h, hx => by
    rw [dirB_cons, List.append_assoc, List.append_assoc]
    have h2 := hx x (by simp)
    cases i with
    | zero =>
      refine ⟨?_, ?_⟩
      · rw [num_head (by rw [two_len]; omega), num_two h2.1]; rfl
      · have := num_app (two x.1) (two x.2 ++ (dirB l ++ r)) 0
        rw [two_len] at this
        rw [show 2 + 4 * 0 = 2 + 0 by omega, this, num_head (by rw [two_len]; omega), num_two h2.2]; rfl
    | succ i =>
      have ih := num_dir l r i (by simpa using h) (fun y hy => hx y (by simp [hy]))
      have e : ∀ j, numL (two x.1 ++ (two x.2 ++ (dirB l ++ r))) (4 + j) = numL (dirB l ++ r) j := fun j => by
        have h1 := num_app (two x.1) (two x.2 ++ (dirB l ++ r)) (2 + j)
        have h2 := num_app (two x.2) (dirB l ++ r) j
        rw [two_len] at h1 h2
        rw [show 4 + j = 2 + (2 + j) by omega, h1, h2]
      rw [show 4 * (i + 1) = 4 + 4 * i by omega, show 2 + (4 + 4 * i) = 4 + (2 + 4 * i) by omega, e, e]
      exact ih
theorem img_len {a : A} (h : a.ok) : (imgA a).length = a.n := by
  have := h.fin
  have := h.low
  have hc : a.cells.length = a.n := rfl
  unfold imgA
  simp only [List.length_append, two_len, dirB_len, List.length_drop, hc]
  unfold A.fin at *
  omega
theorem img_is {a : A} (h : a.ok) : Is (imgA a) a := by
  have hn := h.hi
  have hfin := h.fin
  have hlow := h.low
  have hd : ∀ x ∈ a.dir, x.1 < 65536 ∧ x.2 < 65536 := fun x hx => by
    have := each_mem h hx
    omega
  have e2 : ∀ j, numL (imgA a) (2 + j) = numL (two a.low ++ (dirB a.dir ++ a.cells.drop a.fin)) j := fun j => num_app (two a.dir.length) _ j
  have e4 : ∀ j, numL (imgA a) (4 + j) = numL (dirB a.dir ++ a.cells.drop a.fin) j := fun j => by
    rw [show 4 + j = 2 + (2 + j) by omega, e2]
    exact num_app (two a.low) _ j
  refine ⟨img_len h, ?_, ?_, ?_, ?_⟩
  · unfold imgA
    rw [num_head (by rw [two_len]; omega), num_two (by unfold A.fin at hfin; omega)]
  · rw [show 2 = 2 + 0 by omega, e2, num_head (by rw [two_len]; omega), num_two (by omega)]
  · intro i hi
    rw [e4, show 6 + 4 * i = 4 + (2 + 4 * i) by omega, e4]
    exact num_dir a.dir _ i hi hd
  · intro j hj
    unfold imgA
    have hf : a.fin = 4 + 4 * a.dir.length := rfl
    rw [List.getElem?_append_right (by rw [two_len]; omega), List.getElem?_append_right (by rw [two_len, two_len]; omega), List.getElem?_append_right (by rw [two_len, two_len, dirB_len]; omega), List.getElem?_drop]
    congr 1
    rw [two_len, two_len, dirB_len]
    omega
theorem is_one {b c : List UInt8} {a : A} (hk : a.ok) (h : Is b a) (k : Is c a) : b = c := by
  have hfin := hk.fin
  have hlow := hk.low
  have hb := h.len
  have hc := k.len
  have hf : a.fin = 4 + 4 * a.dir.length := rfl
  have pair : ∀ j, j + 2 ≤ a.n → numL b j = numL c j → b[j]? = c[j]? ∧ b[j + 1]? = c[j + 1]? := fun j hj e => num_tells (by omega) (by omega) e
  apply List.ext_getElem?
  intro j
  by_cases h1 : a.fin ≤ j
  · rw [h.rest j h1, k.rest j h1]
  · by_cases h2 : j < 4
    · have p0 := pair 0 (by omega) (by rw [h.cnt, k.cnt])
      have p2 := pair 2 (by omega) (by rw [h.low, k.low])
      rcases (show j = 0 ∨ j = 1 ∨ j = 2 ∨ j = 3 by omega) with rfl | rfl | rfl | rfl
      · exact p0.1
      · exact p0.2
      · exact p2.1
      · exact p2.2
    · obtain ⟨i, r, hi, hr, hj⟩ : ∃ i r, i < a.dir.length ∧ r < 4 ∧ j = 4 + 4 * i + r := ⟨(j - 4) / 4, (j - 4) % 4, by omega, by omega, by omega⟩
      have d1 := h.dir i hi
      have d2 := k.dir i hi
      have p0 := pair (4 + 4 * i) (by omega) (by rw [d1.1, d2.1])
      have p2 := pair (6 + 4 * i) (by omega) (by rw [d1.2, d2.2])
      rw [show 6 + 4 * i = 4 + 4 * i + 2 by omega] at p2
      subst hj
      rcases (show r = 0 ∨ r = 1 ∨ r = 2 ∨ r = 3 by omega) with rfl | rfl | rfl | rfl
      · exact p0.1
      · exact p0.2
      · exact p2.1
      · exact p2.2
theorem is_img {b : List UInt8} {a : A} (hk : a.ok) (h : Is b a) : b = imgA a := is_one hk h (img_is hk)

end Go.Proofs.Ytmandeohbiagfaa.Slot
