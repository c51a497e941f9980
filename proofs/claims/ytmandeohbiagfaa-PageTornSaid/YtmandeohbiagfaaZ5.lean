/-
  Walks: opening.
  Walks: a page is encoded.
  Walks: the rows of an area that is loaded.
  Walks: bytes that are no page's.
  Walks: the document's left, room, may, same; heavy.
  Walks: the document's may, room, same.
  Walks: the document's same.
  Walks: bytes that may be a page's are read.
  Walks: the document's area: end, Gap, Free, two, Text.
  Plain: an area's size stays; texts of zeros.
  Walks: the document's area: New, below.
  Memory: slices of places: append, slices.
-/
import Derived.Deep.RegionHeld3
import Derived.Deep.DrawnRows
import Derived.BigQuiet
import Derived.Deep.QuietTactic
import Derived.Deep.RegionLaw
import Derived.Test.YtmandeohbiagfaaZ4
namespace Go.Proofs.Ytmandeohbiagfaa.Sum
open Go.RowKit
attribute [local go_sem ↓] Go.wp_at_zero Go.wp_at_succ

theorem clone_any (s : ByteArray) (w : World) (hs : s.size ≤ 281474976710656) :
    Calls Try.prog 54 #[.string s] w fun e w' => e = .returned (.string s) ∧ Below w.heap.size w w' := by
  go_enter Try.func54, Try.ntmps54
  go_wp2_with (go_at_call 81; refine (Try.stringslite_Clone _ _ hs).mono ?_; rintro e w' ⟨rfl, hb⟩)
  go_ret
  exact ⟨rfl, hb⟩

theorem cut_low (s : ByteArray) (i : Nat) (h : i ≤ s.size) (W : World) : (Instr.sliceAt 9 (.string s) none (some (.int .i64 (i : Int))) none).run Try.prog W = .ok (.string (s.extract 0 i)) W := by
  rw [run_sliceAt_string (P := Try.prog) W 9 _ _ _ _ Try.underlying9, run_slice_string_h (P := Try.prog) W 9 s Try.underlying9 .i64 (i : Int) (by omega) (by omega), Int.toNat_natCast]
theorem cut_high (s : ByteArray) (i : Nat) (h : i ≤ s.size) (W : World) : (Instr.sliceAt 9 (.string s) (some (.int .i64 (i : Int))) none none).run Try.prog W = .ok (.string (s.extract i s.size)) W := by
  rw [run_sliceAt_string (P := Try.prog) W 9 _ _ _ _ Try.underlying9, run_slice_string_l (P := Try.prog) W 9 s Try.underlying9 .i64 _ (by omega) (by omega), Int.toNat_natCast]
theorem part_list (s : ByteArray) (a b : Nat) : (s.extract a b).data.toList = (s.data.toList.drop a).take (b - a) := by
  rw [ByteArray.data_extract, Array.toList_extract, List.extract_eq_take_drop]

/-- the text that is sealed, or none -/
def openT (s : ByteArray) : ByteArray := if isSealed s.data.toList then s.extract 0 (s.size - 4) else ⟨#[]⟩

theorem below_drewN (w : World) (n : Nat) : Below w.heap.size w (w.drewN n) := ⟨rfl, rfl, rfl, Nat.le_refl _, fun _ _ => rfl⟩

theorem open_short (s : ByteArray) (w : World) (hs : s.size < 4) :
    Calls Try.prog 33 #[.string s] w fun e w' => e = .returned (.tuple #[.string ⟨#[]⟩, .bool false]) ∧ Below w.heap.size w w' := by
  have hg : decide ((s.size : Int) - 4 < 0) = true := by simp; omega
  go_enter Try.func33, Try.ntmps33
  go_wp2_with fail
  go_quiet (fail)
  go_wp2_with fail
  go_ret2
  exact ⟨rfl, below_drewN _ _⟩

set_option maxHeartbeats 1000000 in
theorem open_long (s : ByteArray) (w : World) (n : Nat) (hs : s.size ≤ 281474976710656) (hn : n + 4 = s.size) :
    Calls Try.prog 33 #[.string s] w fun e w' => e = .returned (.tuple #[.string (openT s), .bool (isSealed s.data.toList)]) ∧ Below w.heap.size w w' := by
  have h1 : ((s.size : Int) - 4) = (n : Int) := by omega
  have hg : decide ((n : Int) < 0) = false := by simp
  have c1 := cut_low s n (by omega)
  have c2 := cut_high s n (by omega)
  have z1 : (s.extract 0 n).size ≤ 281474976710656 := by rw [ByteArray.size_extract]; omega
  have z2 : (s.extract n s.size).size = 4 := by rw [ByteArray.size_extract]; omega
  have F1 := of_any (s.extract 0 n)
  have F2 := tail_any (s.extract n s.size)
  have hl : s.data.toList.length = s.size := (Lib.size_eq _).symm
  have e1 : (s.extract 0 n).data.toList = s.data.toList.take (s.data.toList.length - 4) := by
    rw [part_list, List.drop_zero, hl]; congr 1; omega
  have e2 : (s.extract n s.size).data.toList = s.data.toList.drop (s.data.toList.length - 4) := by
    rw [part_list, hl]
    have : s.size - 4 = n := by omega
    rw [this, List.take_of_length_le (by simp)]
  rw [e1] at F1
  rw [e2] at F2
  have l1 := sumOf_lt (s.data.toList.take (s.data.toList.length - 4))
  have hse : isSealed s.data.toList = decide (sumOf (s.data.toList.take (s.data.toList.length - 4)) = val (s.data.toList.drop (s.data.toList.length - 4))) := by
    unfold isSealed
    have : decide (4 ≤ s.data.toList.length) = true := by simp; omega
    rw [this, Bool.true_and]
  have hop : openT s = if isSealed s.data.toList then s.extract 0 n else ⟨#[]⟩ := by
    have : s.size - 4 = n := by omega
    unfold openT; rw [this]
  rw [hop]
  obtain ⟨x, hx⟩ : ∃ x, x = sumOf (s.data.toList.take (s.data.toList.length - 4)) := ⟨_, rfl⟩
  obtain ⟨y, hy⟩ : ∃ y, y = val (s.data.toList.drop (s.data.toList.length - 4)) := ⟨_, rfl⟩
  rw [← hx] at F1
  rw [← hy] at F2
  rw [← hx, ← hy] at hse
  have f1 := Lib.hid F1
  have f2 := Lib.hid F2
  have z3 := Lib.hid z2
  obtain ⟨p, hp⟩ : ∃ p, p = s.extract 0 n := ⟨_, rfl⟩
  obtain ⟨q, hq⟩ : ∃ q, q = s.extract n s.size := ⟨_, rfl⟩
  rw [← hp] at c1 z1 f1
  rw [← hq] at c2 z3 f2
  rw [← hp]
  clear F1 F2 hx hy hop e1 e2 hl l1 z2 hp hq hn
  by_cases hxy : x = y
  · have hne : ((x : Int) != (y : Int)) = false := by simp; omega
    have ht : isSealed s.data.toList = true := by rw [hse]; simpa using hxy
    rw [ht, if_pos rfl]
    clear ht hxy hse
    go_enter Try.func33, Try.ntmps33
    go_wp2_with fail
    go_region_held3 (fun _ => True) (trivial) (first | (go_at_call 39; refine (f1.out _ ?_).mono ?_; (unfold maxLen; omega); rintro e w1 ⟨rfl, b1⟩) | (go_at_call 53; refine (f2.out _ z3.out).mono ?_; rintro e w1 ⟨rfl, rfl⟩))
    have hb := b1.mono (show w.heap.size ≤ w.drew.heap.size from Nat.le_refl _)
    have hb2 := (Below.refl w.heap.size w).drew.trans hb
    have B := Lib.hid hb2
    clear hb hb2 b1
    go_wp2_with fail
    refine (clone_any _ _ z1).mono ?_
    rintro e w2 ⟨rfl, b2⟩
    have B2 := Lib.hid (B.out.trans (b2.mono B.out.size))
    clear b2 B
    go_wp2_with fail
    go_ret2
    exact ⟨rfl, B2.out⟩
  · have hne : ((x : Int) != (y : Int)) = true := by simp; omega
    have ht : isSealed s.data.toList = false := by rw [hse]; simpa using hxy
    rw [ht, if_neg (by decide)]
    clear ht hxy hse
    go_enter Try.func33, Try.ntmps33
    go_wp2_with fail
    go_region_held3 (fun _ => True) (trivial) (first | (go_at_call 39; refine (f1.out _ ?_).mono ?_; (unfold maxLen; omega); rintro e w1 ⟨rfl, b1⟩) | (go_at_call 53; refine (f2.out _ z3.out).mono ?_; rintro e w1 ⟨rfl, rfl⟩))
    have hb := b1.mono (show w.heap.size ≤ w.drew.heap.size from Nat.le_refl _)
    have hb2 := (Below.refl w.heap.size w).drew.trans hb
    have B := Lib.hid hb2
    clear hb hb2 b1
    go_wp2_with fail
    go_ret2
    exact ⟨rfl, B.out⟩

theorem openT_short (s : ByteArray) (h : s.size < 4) : isSealed s.data.toList = false ∧ openT s = ⟨#[]⟩ := by
  have hl : s.data.toList.length = s.size := (Lib.size_eq _).symm
  have e : isSealed s.data.toList = false := by
    unfold isSealed
    have : decide (4 ≤ s.data.toList.length) = false := by simp; omega
    rw [this, Bool.false_and]
  exact ⟨e, by unfold openT; rw [e, if_neg (by decide)]⟩

theorem open_any (s : ByteArray) (w : World) (hs : s.size ≤ 281474976710656) :
    Calls Try.prog 33 #[.string s] w fun e w' => e = .returned (.tuple #[.string (openT s), .bool (isSealed s.data.toList)]) ∧ Below w.heap.size w w' := by
  by_cases h : s.size < 4
  · rw [(openT_short s h).1, (openT_short s h).2]
    exact open_short s w h
  · exact open_long s w (s.size - 4) hs (by omega)

end Go.Proofs.Ytmandeohbiagfaa.Sum

namespace Go.Proofs.Ytmandeohbiagfaa.Page
open Go.RowKit
attribute [local go_sem ↓] Go.wp_at_zero Go.wp_at_succ

/-- a page that is being written: its boxes and rows stand -/
structure En (w w' : World) (g hd : Nat) (p : Pg) (v : Value) : Prop where
  box : w'.heap[g]? = some (.cells (pgC p v) 26 (0, 0))
  head : w'.heap[hd]? = some (.cells (pgC p v) 50 (0, 0))
  rows : Rows w' v p.rows
  below : Below w.heap.size w w'
theorem En.later {w w' w2 : World} {g hd : Nat} {p : Pg} {v : Value} (h : En w w' g hd p v) (t : Below w'.heap.size w' w2) : En w w2 g hd p v :=
  ⟨(t.block g (Array.getElem?_eq_some_iff.1 h.box).1).trans h.box, (t.block hd (Array.getElem?_eq_some_iff.1 h.head).1).trans h.head, h.rows.later t, h.below.trans (t.mono h.below.size)⟩
theorem En.cell {w w' : World} {g hd : Nat} {p : Pg} {v : Value} (h : En w w' g hd p v) : w'.cell? ⟨g, 5, none⟩ = some v := by rw [cell_of_row _ _ _ _ _ _ h.box]; rfl
theorem strB_app (l m : List UInt8) : Slot.strB l ++ Slot.strB m = Slot.strB (l ++ m) := by
  apply ByteArray.ext
  rw [ByteArray.data_append]
  simp [Slot.strB]
/-- what is sealed -/
theorem seal_body {p : Pg} (hm : mayP p = true) (W : World) : Calls Try.prog 22 #[.string (Slot.strB (headL p) ++ Slot.strB (Slot.imgA (arA p.rows p.rows.length)))] W fun e w' => e = .returned (.string (encS p)) ∧ Below W.heap.size W w' := by
  rw [strB_app]
  have e : headL p ++ Slot.imgA (arA p.rows p.rows.length) = bodyL p := rfl
  rw [e]
  have hl := bodyL_len (may_used hm)
  have h := Sum.seal_any (Slot.strB (bodyL p)) W (by show (bodyL p).length ≤ _; omega)
  have e2 : encS p = ⟨(Sum.sealL (Slot.strB (bodyL p)).data.toList).toArray⟩ := by
    unfold encS
    rw [if_pos hm]
    rfl
  rw [e2]
  exact h

set_option maxRecDepth 100000 in
set_option maxHeartbeats 1000000 in
theorem encode_no {w : World} {v : Value} (p : Pg) (h : Rows w v p.rows) (hu : used p.rows ≤ 1000000) (hm : mayP p = false) :
    Calls Try.prog 10 #[pgV p v] w fun e w' => e = .returned (.tuple #[.string ⟨#[]⟩, .int .i64 2]) ∧ Below w.heap.size w w' := by
  have m := may_any p (h.alloc (.cells (pgC p v) 26)) hu
  rw [hm] at m
  unfold pgC pgV at m
  have M := Lib.hid m
  have B := Lib.hid ((Below.refl w.heap.size w).alloc (Nat.le_refl _) (.cells (pgC p v) 26))
  clear m h hu hm
  unfold pgV
  go_enter Try.func10, Try.ntmps10
  go_wp2_with fail
  refine M.out.mono ?_
  rintro e w1 ⟨rfl, b1⟩
  have B1 := Lib.hid (B.out.trans (b1.mono B.out.size))
  clear b1
  go_wp2_with fail
  go_ret2
  exact ⟨rfl, B1.out⟩

set_option maxRecDepth 100000 in
set_option maxHeartbeats 2000000 in
theorem encode_yes {w : World} {v : Value} (p : Pg) (hw : p.wf) (h : Rows w v p.rows) (hm : mayP p = true) :
    Calls Try.prog 10 #[pgV p v] w fun e w' => e = .returned (.tuple #[.string (encS p), .int .i64 0]) ∧ Below w.heap.size w w' := by
  have hu := may_used hm
  obtain ⟨ad, c, rfl, _⟩ := id h
  obtain ⟨n, hn⟩ : ∃ n, n = p.rows.length := ⟨_, rfl⟩
  rw [← hn] at h ⊢
  have m := may_any p (h.alloc (.cells (pgC p (.slice ad n c)) 26)) (by omega)
  rw [hm] at m
  unfold pgC pgV at m
  have M := Lib.hid m
  have B := Lib.hid ((Below.refl w.heap.size w).alloc (Nat.le_refl _) (.cells (pgC p (.slice ad n c)) 26))
  have H := Lib.hid h
  have hx : (headL p).length = 20 ∧ (Slot.imgA (arA p.rows p.rows.length)).length = 488 := by
    obtain ⟨k1, k2, _⟩ := arA_is p.rows hu
    exact ⟨headL_len p, by rw [Slot.img_len k1, k2]⟩
  obtain ⟨X, hX⟩ : ∃ X, X = Slot.strB (headL p) := ⟨_, rfl⟩
  obtain ⟨Y, hY⟩ : ∃ Y, Y = Slot.strB (Slot.imgA (arA p.rows p.rows.length)) := ⟨_, rfl⟩
  have sX : X.size = 20 := by rw [hX]; exact hx.1
  have sY : Y.size = 488 := by rw [hY]; exact hx.2
  have KW := Lib.hid (fun (W : World) (hd : Nat) (v : Value) (hh : W.heap[hd]? = some (.cells (pgC p v) 50 (0, 0))) => write_any hw hh)
  have KA := Lib.hid (fun (W : World) (v : Value) (hr : Rows W v p.rows) => areaOf_any hr hu)
  have KS := Lib.hid (fun (W : World) => seal_body hm W)
  rw [← hX] at KW KS
  rw [← hY] at KA KS
  have big : (9223372036854775807 < X.size + Y.size) = False := by rw [sX, sY]; simp
  obtain ⟨ES, hES⟩ : ∃ E, E = encS p := ⟨_, rfl⟩
  rw [← hES] at KS ⊢
  clear m h hu hm hn hw hx hX hY sX sY hES
  unfold pgV
  go_enter Try.func10, Try.ntmps10
  go_wp2_with fail
  refine M.out.mono ?_
  rintro e w1 ⟨rfl, b1⟩
  have B1 := Lib.hid (B.out.trans (b1.mono B.out.size))
  have hb : w1.heap[w.heap.size]? = some (.cells (pgC p (.slice ad n c)) 26 (0, 0)) := (b1.block _ (by simp)).trans (heap_alloc_new w _)
  have c0 : w1.cell? ⟨w.heap.size, 0, none⟩ = some (.int .u8 (p.kind : Int)) := by rw [cell_of_row _ _ _ _ _ _ hb]; rfl
  have c1 : w1.cell? ⟨w.heap.size, 1, none⟩ = some (.int .u8 (p.level : Int)) := by rw [cell_of_row _ _ _ _ _ _ hb]; rfl
  have c2 : w1.cell? ⟨w.heap.size, 2, none⟩ = some (.int .u32 (p.id : Int)) := by rw [cell_of_row _ _ _ _ _ _ hb]; rfl
  have c3 : w1.cell? ⟨w.heap.size, 3, none⟩ = some (.int .u64 (p.lsn : Int)) := by rw [cell_of_row _ _ _ _ _ _ hb]; rfl
  have c4 : w1.cell? ⟨w.heap.size, 4, none⟩ = some (.int .u32 (p.next : Int)) := by rw [cell_of_row _ _ _ _ _ _ hb]; rfl
  have c5 : w1.cell? ⟨w.heap.size, 5, none⟩ = some (.slice ad n c) := by rw [cell_of_row _ _ _ _ _ _ hb]; rfl
  have RW := Lib.hid (H.out.later B1.out)
  have HB := Lib.hid hb
  clear hb b1 M B
  go_wp2_with fail
  have E0 : Hid (En w (w1.alloc (.cells (pgC p (.slice ad n c)) 50)).drew w.heap.size w1.heap.size p (.slice ad n c)) := by
    have bb : Below w1.heap.size w1 (w1.alloc (.cells (pgC p (.slice ad n c)) 50)) := (Below.refl _ _).alloc (Nat.le_refl _) _
    have e1 : En w (w1.alloc (.cells (pgC p (.slice ad n c)) 50)) w.heap.size w1.heap.size p (.slice ad n c) :=
      ⟨(bb.block _ (Array.getElem?_eq_some_iff.1 HB.out).1).trans HB.out, heap_alloc_new w1 _, RW.out.later bb, B1.out.trans (bb.mono B1.out.size)⟩
    exact Lib.hid (e1.later ((Below.refl _ _).drew))
  change Code.wp _ _ _ _ (w1.alloc (.cells (pgC p (.slice ad n c)) 50))
  generalize w1.alloc (.cells (pgC p (.slice ad n c)) 50) = W at *
  generalize w1.heap.size = hd at *
  generalize w.heap.size = g at *
  clear c0 c1 c2 c3 c4 c5 RW HB B1 H
  go_region_held3 (fun w' => w'.cell? ⟨g, 5, none⟩ = some (.slice ad n c)) (first | exact E0.out.cell | exact E1.cell | exact E2.cell | exact E3.cell)
    (first
      | (go_at_call 23; refine (KW.out _ _ _ E0.out.head).mono ?_; rintro e w2 ⟨rfl, b2⟩; have E1 := E0.out.later b2; clear b2)
      | (go_at_call 24; refine (KA.out _ _ E1.rows).mono ?_; rintro e w3 ⟨rfl, b3⟩; have E2 := E1.later b3; clear b3)
      | (go_at_call 22; refine (KS.out _).mono ?_; rintro e w4 ⟨rfl, b4⟩; have E3 := E2.later b4; clear b4))
  all_goals
    have HE := Lib.hid E3.below
    clear E1 E2 E3 E0
    go_wp2_with fail
    go_ret2
    exact ⟨rfl, HE.out⟩

theorem encode_any {w : World} {v : Value} (p : Pg) (hw : p.wf) (h : Rows w v p.rows) (hu : used p.rows ≤ 1000000) :
    Calls Try.prog 10 #[pgV p v] w fun e w' => e = .returned (.tuple #[.string (encS p), .int .i64 (encE p)]) ∧ Below w.heap.size w w' := by
  cases hm : mayP p with
  | true =>
    have e : encE p = 0 := by unfold encE; rw [if_pos hm]
    rw [e]
    exact encode_yes p hw h hm
  | false =>
    have e : encE p = 2 := by unfold encE; rw [if_neg (by rw [hm]; decide)]
    have e2 : encS p = ⟨#[]⟩ := by unfold encS; rw [if_neg (by rw [hm]; decide)]
    rw [e, e2]
    exact encode_no p h hu hm

end Go.Proofs.Ytmandeohbiagfaa.Page

namespace Go.Proofs.Ytmandeohbiagfaa.Page
open Go.RowKit Slot
attribute [local go_sem ↓] Go.wp_at_zero Go.wp_at_succ

/-- the rows that an area's bytes have -/
def rowsT (b : List UInt8) : List ByteArray := (areaOf b).texts.map strB
theorem rowsT_len (b : List UInt8) : (rowsT b).length = (areaOf b).dir.length := by unfold rowsT; rw [List.length_map, Slot.texts_len]
theorem rowsT_nth {b : List UInt8} {k : Nat} (hk : k < (areaOf b).dir.length) : nth (rowsT b) k = strB ((areaOf b).text k) := by
  have h := nth_get (l := rowsT b) (k := k) (by rw [rowsT_len]; exact hk)
  unfold rowsT at h
  rw [List.getElem?_map, Slot.texts_at hk] at h
  exact (Option.some.inj h).symm
/-- a slice that a call has made is one -/
theorem rows_tx {W0 w : World} {v : Value} {l : List ByteArray} (h : Tx W0 w v l) : Rows w v l := by
  rcases h.form with ⟨rfl, rfl⟩ | ⟨g, cap, cur, rfl, h2, h3, h4, h5⟩
  · exact Rows.nil w none 0
  · refine ⟨_, cap, rfl, .inr ⟨g, 0, rfl, (Array.getElem?_eq_some_iff.1 h3).1, fun j hj => ?_⟩⟩
    rw [cell_of_row w g _ cur _ _ h3, ← Array.getElem?_toList]
    have e : (cur.toList.take l.length)[j]? = (l.map Value.string)[j]? := by rw [h5]
    rw [List.getElem?_take, if_pos hj, List.getElem?_map, nth_get hj] at e
    rw [Nat.zero_add]
    exact e

def RowsPost (s : ByteArray) (w : World) (e : Ending) (w' : World) : Prop :=
  Below w.heap.size w w' ∧ ((Loads s.data.toList ∧ ∃ v, e = .returned (.tuple #[v, .bool true]) ∧ Rows w' v (rowsT s.data.toList)) ∨ (¬ Loads s.data.toList ∧ e = .returned (.tuple #[.slice none 0 0, .bool false])))

theorem app_one {W0 wr : World} {v : Value} {L : List ByteArray} {p g c : Nat} {a : A} {S : ByteArray} (ht : Tx W0 wr v L) (hs : St W0 wr p g c a) (hl : L.length ≤ 100000) :
    Tx W0 (wr.alloc (.cells #[.string S] 9)) v L ∧ SrcOf (wr.alloc (.cells #[.string S] 9)) (.slice (some ⟨wr.heap.size, 0, none⟩) 1 1) [S].length ([S].map Value.string) ∧ L.length + [S].length ≤ 1000000 ∧ St W0 (wr.alloc (.cells #[.string S] 9)) p g c a := by
  have b : Below wr.heap.size wr (wr.alloc (.cells #[.string S] 9)) := (Below.refl _ _).alloc (Nat.le_refl _) _
  have TM := Tx.made W0 (w := wr) [S] hs.below.size (by simp)
  exact ⟨ht.later b, TM.all, by simp; omega, hs.later b⟩

set_option maxRecDepth 100000 in
set_option maxHeartbeats 1000000 in
theorem rowsOf_any (s : ByteArray) (w : World) (hs : s.size ≤ 281474976710656) : Calls Try.prog 34 #[.string s] w (RowsPost s w) := by
  have L0 := Lib.hid (load_any s w hs)
  go_enter Try.func34, Try.ntmps34
  go_wp2_with fail
  refine L0.out.mono ?_
  rintro e w1 ⟨hb, ⟨hl, rfl, c, ha⟩ | ⟨hl, rfl⟩⟩
  · have hA : Area w1 (w.heap.size + 1) w.heap.size c (areaOf s.data.toList) := ⟨⟨_, ha, areaOf_is _⟩, areaOf_ok hl⟩
    have hS : St w w1 (w.heap.size + 1) w.heap.size c (areaOf s.data.toList) := ⟨hA, hb, by omega, by omega⟩
    have S0 := Lib.hid hS
    have hk := areaOf_ok hl
    have hf := hk.fin
    have hlo := hk.low
    have hhi := hk.hi
    have LN := Lib.hid (len_is hA)
    have HL := Lib.hid hl
    obtain ⟨a, haa⟩ : ∃ a, a = areaOf s.data.toList := ⟨_, rfl⟩
    have AA := Lib.hid haa
    rw [← haa] at S0 LN hf hlo hhi
    obtain ⟨n, hn⟩ : ∃ n, n = a.dir.length := ⟨_, rfl⟩
    have N := Lib.hid hn
    rw [← hn] at LN
    have hn2 : n ≤ 100000 := by unfold A.fin at hf; omega
    have TX0 := Lib.hid (Tx.nil w (w := w1) hb.size)
    have RT := Lib.hid (show ∀ k, k < n → nth (rowsT s.data.toList) k = strB (a.text k) from fun k hk => by rw [haa]; exact rowsT_nth (by rw [← haa, ← hn]; exact hk))
    have RL := Lib.hid (show (rowsT s.data.toList).length = n by rw [rowsT_len, ← haa, hn])
    obtain ⟨T, hT⟩ : ∃ T, T = rowsT s.data.toList := ⟨_, rfl⟩
    rw [← hT] at RT RL
    have TE := Lib.hid hT
    clear hT
    clear hA hS hk hf hlo hhi hl haa hn ha hb L0
    generalize w.heap.size + 1 = p at *
    obtain ⟨g, hg⟩ : ∃ g, g = w.heap.size := ⟨_, rfl⟩
    have S1 : Hid (St w w1 p g c a) := by rw [hg]; exact S0
    clear S0 hg
    go_wp2_with fail
    refine LN.out.mono ?_
    rintro e w' ⟨rfl, rfl⟩
    clear LN
    go_wp2_with fail
    go_loopw [6, 19] (fun v i wr => ∃ (k : Nat) (L : List ByteArray), k ≤ n ∧ i = .int .i64 k ∧ L = T.take k ∧ Tx w wr v L ∧ St w wr p g c a) (fun _ i _ => n - (intOf i).toNat)
    case atStart => exact ⟨0, [], by omega, by go_num, rfl, TX0.out, S1.out⟩
    case round =>
      obtain ⟨k, L, hk, rfl, hL, htx, hst⟩ := hrel
      clear TX0 S1
      have HT := Lib.hid htx
      have HS := Lib.hid hst
      have HLL := Lib.hid hL
      clear htx hst hL
      by_cases hlt : k < n
      · have G := get_is HS.out.area (k : Int)
        have hp : hasP a (k : Int) := by unfold hasP; rw [← N.out]; omega
        have eg : getS a (k : Int) = a.text k := by unfold getS; rw [if_pos hp]; rfl
        rw [if_pos hp, eg, ← RT.out k hlt] at G
        have GG := Lib.hid G
        obtain ⟨S, hS⟩ : ∃ S, S = nth T k := ⟨_, rfl⟩
        rw [← hS] at GG
        have HSS := Lib.hid hS
        clear G hp eg hS
        go_wp2_with fail
        refine GG.out.mono ?_
        rintro e w2 ⟨rfl, b2⟩
        have LT : L.length ≤ 100000 := by rw [HLL.out, List.length_take]; omega
        obtain ⟨t1, t2, t3, t4⟩ := app_one (S := S) (HT.out.later b2) (HS.out.later b2) LT
        have T1 := Lib.hid t1
        have T2 := Lib.hid t2
        have T3 := Lib.hid t3
        have T4 := Lib.hid t4
        clear t1 t2 t3 t4 b2 GG LT
        go_wp2_with (first | (refine wpList_app (W0 := w) (news := [S]) rfl _ _ rfl T1.out T2.out T3.out rfl rfl ?_; intro v3 w3 t3 g3))
        have S3 := Lib.hid (T4.out.grown T1.out g3)
        have TX3 := Lib.hid t3
        clear t3 g3
        go_wp2_with fail
        go_roundw
        case rel => exact ⟨k + 1, L ++ [S], by omega, by go_num, by rw [nth_take (by rw [RL.out]; exact hlt), HLL.out, HSS.out], TX3.out, S3.out⟩
        case measure => simp [intOf]; omega
      · obtain rfl : k = n := by omega
        have eL : L = T := by rw [HLL.out]; exact List.take_of_length_le (by rw [RL.out]; omega)
        have RW := Lib.hid (rows_tx HT.out)
        rw [eL, TE.out] at RW
        go_wp2_with fail
        go_ret2
        exact ⟨HS.out.below, .inl ⟨HL.out, _, rfl, RW.out⟩⟩
  · have B := Lib.hid hb
    have HL := Lib.hid hl
    clear hb hl L0
    go_wp2_with fail
    go_ret2
    exact ⟨B.out, .inr ⟨HL.out, rfl⟩⟩

end Go.Proofs.Ytmandeohbiagfaa.Page

namespace Go.Proofs.Ytmandeohbiagfaa.Page
open Go.RowKit
open Go.Proofs.Ytmandeohbiagfaa.Sum (isSealed sealL openT)
attribute [local go_sem ↓] Go.wp_at_zero Go.wp_at_succ

theorem results_page {fn : Func} {p k : Tmp} (h : fn.results = #[.cell p 26, .tmp k]) (tmps : Array Value) (w : World) (g : Nat) (cs : Array Value) (c : Int) (hp : tmps.getD p undef = .pointer (some ⟨g, 0, none⟩)) (hk : tmps.getD k undef = .int .i64 c) (hg : w.heap[g]? = some (.cells cs 26 (0, 0)))
    (hi : (Try.prog.info? 26).map (·.size) = some cs.size) : (results fn tmps).run Try.prog w = .ok (.tuple #[.agg cs, .int .i64 c]) w := by
  have hp' : tmps[p]?.getD undef = .pointer (some ⟨g, 0, none⟩) := by simpa using hp
  have hk' : tmps[k]?.getD undef = .int .i64 c := by simpa using hk
  simp [results, h, hp', hk', asAddr, run_loadVar_row w g 26 26 cs (0, 0) _ hg Try.underlying26 rfl hi]
theorem info_page : (Try.prog.info? 26).map (·.size) = some 6 := by kernel_rfl

/-- what a call that reads a page answers -/
def DecPost (q : Pg) (c : Int) (w : World) (e : Ending) (w' : World) : Prop :=
  Below w.heap.size w w' ∧ ∃ v, e = .returned (.tuple #[pgV q v, .int .i64 c]) ∧ Rows w' v q.rows
theorem DecPost.none {w w' : World} (h : Below w.heap.size w w') : DecPost Pg.zero 60 w (.returned (.tuple #[pgV Pg.zero (.slice none 0 0), .int .i64 60])) w' := ⟨h, _, rfl, Rows.nil _ _ _⟩

set_option maxRecDepth 100000 in
set_option maxHeartbeats 1000000 in
theorem decode_size (s : ByteArray) (w : World) (_hs : s.size ≤ 281474976710656) (h : s.size ≠ 512) : Calls Try.prog 18 #[.string s] w (DecPost Pg.zero 60 w) := by
  have e1 : ((s.size : Int) != 512) = true := by simp; omega
  clear h
  go_enter Try.func18, Try.ntmps18
  go_wp2_with fail
  exact bodyPost_ret (v := .tuple #[pgV Pg.zero (.slice none 0 0), .int .i64 60]) (results_page Try.results18 _ _ w.heap.size _ 60 rfl rfl (heap_alloc_new w _) info_page) rfl (DecPost.none ((Below.refl _ _).alloc (Nat.le_refl _) _))

/-- an empty page's cells -/
def zeroP : Array Value := #[.int .u8 0, .int .u8 0, .int .u32 0, .int .u64 0, .int .u32 0, .slice none 0 0]
theorem zero_one : zeroP.all (·.oneCell') = true := Array.all_eq_true_iff_forall_mem.2 (by
  intro v hv
  simp [zeroP] at hv
  rcases hv with rfl | rfl | rfl | rfl | rfl <;> rfl)
theorem zero_agg : Value.agg zeroP = pgV Pg.zero (.slice none 0 0) := rfl

set_option maxRecDepth 100000 in
set_option maxHeartbeats 1000000 in
theorem decode_seal (s : ByteArray) (w : World) (h : s.size = 512) (hn : isSealed s.data.toList = false) : Calls Try.prog 18 #[.string s] w (DecPost Pg.zero 60 w) := by
  have e1 : ((s.size : Int) != 512) = false := by rw [h]; rfl
  have O := Sum.open_any s (w.alloc (.cells zeroP 26)) (by omega)
  rw [hn] at O
  unfold zeroP at O
  have OO := Lib.hid O
  have B := Lib.hid ((Below.refl w.heap.size w).alloc (Nat.le_refl _) (.cells zeroP 26))
  clear h hn O
  go_enter Try.func18, Try.ntmps18
  go_wp2_with fail
  refine OO.out.mono ?_
  rintro e w1 ⟨rfl, b1⟩
  have hb := (b1.block w.heap.size (by simp)).trans (heap_alloc_new w _)
  have HB := Lib.hid (show w1.heap[w.heap.size]? = some (.cells zeroP 26 (0, 0)) from hb)
  have B1 := Lib.hid (B.out.trans (b1.mono B.out.size))
  clear hb b1
  go_wp2_with (refine wpList_store_row rfl 26 _ _ rfl w.heap.size zeroP rfl rfl 26 zeroP HB.out info_page rfl zero_one ?_)
  exact bodyPost_ret (v := .tuple #[pgV Pg.zero (.slice none 0 0), .int .i64 60]) (results_page Try.results18 _ _ w.heap.size zeroP 60 rfl rfl (setRow_heap _ _ _ _ _ _ HB.out) info_page) rfl (DecPost.none (below_setRow B1.out (Nat.le_refl _) _))

/-! ### the parts of a sealed text -/
/-- its head, and its area -/
structure Cuts (s T t A : ByteArray) : Prop where
  size : T.size = 508
  open' : openT s = T
  area : A = T.extract 20 T.size
  head : t = T.extract 0 20
  data : A.data.toList = areaS s
  tsize : t.size = 20
  num : ∀ k n, k + n ≤ 20 → numAt t k n = nAt s k n
theorem cuts_of {s : ByteArray} (h : s.size = 512) (hs : isSealed s.data.toList = true) : ∃ T t A, Cuts s T t A := by
  have e0 : openT s = s.extract 0 508 := by
    unfold openT
    rw [if_pos hs, h]
  have e1 : (s.extract 0 508).size = 508 := by rw [ByteArray.size_extract, h]; rfl
  have d0 : (s.extract 0 508).data.toList = s.data.toList.take 508 := by rw [Sum.part_list, List.drop_zero]
  refine ⟨s.extract 0 508, (s.extract 0 508).extract 0 20, (s.extract 0 508).extract 20 (s.extract 0 508).size, e1, e0, rfl, rfl, ?_, ?_, ?_⟩
  · rw [Sum.part_list, d0, e1]
    unfold areaS
    rw [List.drop_take, List.take_take]
    exact congrArg (fun m => List.take m (List.drop 20 s.data.toList)) (by decide)
  · rw [ByteArray.size_extract, e1]; decide
  · intro k n hk
    unfold numAt nAt
    rw [Sum.part_list, d0, List.drop_zero, List.take_take, List.drop_take, List.take_take]
    exact congrArg (fun m => _root_.Go.Proofs.Ytmandeohbiagfaa.num (List.take m (List.drop k s.data.toList))) (by omega)

set_option maxRecDepth 100000 in
set_option maxHeartbeats 1000000 in
theorem decode_form (s : ByteArray) (w : World) (h : s.size = 512) (hs : isSealed s.data.toList = true) (hl : ¬ Slot.Loads (areaS s)) : Calls Try.prog 18 #[.string s] w (DecPost Pg.zero 60 w) := by
  have e1 : ((s.size : Int) != 512) = false := by rw [h]; rfl
  obtain ⟨T, t, A, hC⟩ := cuts_of h hs
  have O := Sum.open_any s (w.alloc (.cells zeroP 26)) (by omega)
  rw [hs, hC.open'] at O
  unfold zeroP at O
  have OO := Lib.hid O
  have B := Lib.hid ((Below.refl w.heap.size w).alloc (Nat.le_refl _) (.cells zeroP 26))
  have e2 : ((T.size : Int) - 488) = 20 := by rw [hC.size]; rfl
  have c1 : ∀ W, (Instr.sliceAt 9 (.string T) (some (.int .i64 20)) none none).run Try.prog W = .ok (.string A) W := fun W => by
    rw [hC.area]; exact Sum.cut_high T 20 (by have := hC.size; omega) W
  have hA : A.size ≤ 281474976710656 := by rw [hC.area, ByteArray.size_extract, hC.size]; decide
  have RO := Lib.hid (fun W => rowsOf_any A W hA)
  have HL := Lib.hid hl
  have HD := Lib.hid hC.data
  clear h hs O hC hl hA
  go_enter Try.func18, Try.ntmps18
  go_wp2_with fail
  refine OO.out.mono ?_
  rintro e w1 ⟨rfl, b1⟩
  have hb := (b1.block w.heap.size (by simp)).trans (heap_alloc_new w _)
  have HB := Lib.hid (show w1.heap[w.heap.size]? = some (.cells zeroP 26 (0, 0)) from hb)
  have B1 := Lib.hid (B.out.trans (b1.mono B.out.size))
  clear hb b1 OO
  go_wp2_with fail
  refine (RO.out _).mono ?_
  rintro e w2 ⟨b2, ⟨k1, _⟩ | ⟨_, rfl⟩⟩
  · rw [HD.out] at k1
    exact absurd k1 HL.out
  · have HB2 := Lib.hid ((b2.block w.heap.size (Array.getElem?_eq_some_iff.1 HB.out).1).trans HB.out)
    have B2 := Lib.hid (B1.out.trans (b2.mono B1.out.size))
    clear b2 c1
    go_wp2_with (refine wpList_store_row rfl 26 _ _ rfl w.heap.size zeroP rfl rfl 26 zeroP HB2.out info_page rfl zero_one ?_)
    exact bodyPost_ret (v := .tuple #[pgV Pg.zero (.slice none 0 0), .int .i64 60]) (results_page Try.results18 _ _ w.heap.size zeroP 60 rfl rfl (setRow_heap _ _ _ _ _ _ HB2.out) info_page) rfl (DecPost.none (below_setRow B2.out (Nat.le_refl _) _))

end Go.Proofs.Ytmandeohbiagfaa.Page

namespace Go.Proofs.Ytmandeohbiagfaa.Page
open Go.RowKit
attribute [local go_sem ↓] Go.wp_at_zero Go.wp_at_succ

def leftR (l : List ByteArray) : Int := 484 - (used l : Int)
theorem pgC_cell (w : World) (p : Pg) (v : Value) : (w.alloc (.cells (pgC p v) 26)).cell? ⟨w.heap.size, 5, none⟩ = some v := by
  rw [cell_of_row _ _ _ _ _ _ (heap_alloc_new w _)]
  rfl

set_option maxRecDepth 100000 in
set_option maxHeartbeats 1000000 in
theorem rleft_any {w : World} {v : Value} (p : Pg) (h : Rows w v p.rows) (hu : used p.rows ≤ 1000000) : Calls Try.prog 31 #[pgV p v] w fun e w' => e = .returned (.int .i64 (leftR p.rows)) ∧ Below w.heap.size w w' := by
  have hr := h.alloc (.cells (pgC p v) 26)
  have hc := pgC_cell w p v
  have hbl := (Below.refl w.heap.size w).alloc (Nat.le_refl _) (.cells (pgC p v) 26)
  obtain ⟨W, hW⟩ : ∃ W, W = w.alloc (.cells (pgC p v) 26) := ⟨_, rfl⟩
  rw [← hW] at hr hc hbl
  obtain ⟨ad, c, rfl, _⟩ := id h
  have hlen := used_len p.rows
  have B := Lib.hid hbl
  obtain ⟨l, hl⟩ : ∃ l, l = p.rows := ⟨_, rfl⟩
  have PL := Lib.hid hl
  rw [← hl] at hlen hc hu
  rw [← hl] at hr
  have H := Lib.hid hr
  obtain ⟨n, hn⟩ : ∃ n, n = l.length := ⟨_, rfl⟩
  have N := Lib.hid hn
  have hn2 : n ≤ 1000000 := by omega
  have U := Lib.hid hu
  obtain ⟨g, hg⟩ : ∃ g, g = w.heap.size := ⟨_, rfl⟩
  have G := Lib.hid hg
  rw [← hg] at hc
  rw [← hl]
  rw [← hn] at hc ⊢
  rw [← hl, ← hn] at hW
  have HW := Lib.hid hW
  clear h hu hlen hn hr hbl hl hW hg
  unfold pgV
  go_enter Try.func31, Try.ntmps31
  go_wp2_with fail
  change Code.wp _ _ _ _ (w.alloc (.cells (pgC p (.slice ad n c)) 26))
  rw [← HW.out, ← G.out]
  go_loop [3, 4] (fun x i => ∃ (k : Nat) (m : Int), k ≤ n ∧ m ≤ 484 ∧ -1000000 ≤ m ∧ m + (used (l.take k) : Int) = 484 ∧ x = .int .i64 m ∧ i = .int .i64 k) (fun _ i => n - (intOf i).toNat)
  case atStart => exact ⟨0, 484, by omega, by omega, by omega, by rw [List.take_zero, used_nil]; rfl, by go_num, by go_num⟩
  case round =>
    obtain ⟨k, m, hk, hm, hm2, hs, rfl, rfl⟩ := hrel
    by_cases hlt : k < n
    · have hlt2 : k < l.length := by rw [← N.out]; exact hlt
      have hx := H.out
      obtain ⟨b, o, rfl, hb, hc2⟩ := hx.at (k := k) hlt2
      obtain ⟨t1, t2, t3⟩ := left_step (l := l) (k := k) hlt2 U.out
      obtain ⟨s, hs2⟩ : ∃ s, s = nth l k := ⟨_, rfl⟩
      rw [← hs2] at hc2 t1 t2
      obtain ⟨m2, hm3⟩ : ∃ m2 : Int, m2 = m - 4 - (s.size : Int) := ⟨_, rfl⟩
      have U2 := U.out
      have Y : m - 4 - (s.size : Int) = m2 := hm3.symm
      have Z := Lib.hid (show m2 + (used (l.take (k + 1)) : Int) = 484 by omega)
      have q1 : m2 ≤ 484 := by omega
      have q2 : -1000000 ≤ m2 := by omega
      clear hs t2 t3 hs2 U2 hx hm3
      go_wp2_with fail
      go_round
      case rel => exact ⟨k + 1, m2, by omega, q1, q2, Z.out, by go_num, by go_num⟩
      case measure => simp [intOf]; omega
    · obtain rfl : k = n := by omega
      have e : leftR l = m := by
        have e1 : l.take k = l := List.take_of_length_le (by rw [← N.out]; omega)
        rw [e1] at hs
        unfold leftR; omega
      have E := Lib.hid e
      clear hs e
      go_wp2_with fail
      go_ret
      exact ⟨by rw [E.out]; rfl, B.out⟩

end Go.Proofs.Ytmandeohbiagfaa.Page

namespace Go.Proofs.Ytmandeohbiagfaa.Page
open Go.RowKit
attribute [local go_sem ↓] Go.wp_at_zero Go.wp_at_succ

theorem roomR_of (l : List ByteArray) : (if leftR l - 4 < 0 then -1 else leftR l - 4) = roomI l := by
  unfold leftR roomI
  split <;> split <;> omega
theorem mayR_of (p : Pg) : mayP p = (decide (p.kind ≤ 5) && (decide (1 ≤ p.id) && (decide (p.id ≤ 1024) && (decide (p.next ≤ 1024) && decide (0 ≤ leftR p.rows))))) := by
  unfold mayP leftR
  rw [Bool.eq_iff_iff]
  simp only [Bool.and_eq_true, decide_eq_true_eq]
  omega

set_option maxRecDepth 100000 in
set_option maxHeartbeats 1000000 in
theorem rroom_any {w : World} {v : Value} (p : Pg) (h : Rows w v p.rows) (hu : used p.rows ≤ 1000000) : Calls Try.prog 15 #[pgV p v] w fun e w' => e = .returned (.int .i64 (roomI p.rows)) ∧ Below w.heap.size w w' := by
  have L := rleft_any p (h.alloc (.cells (pgC p v) 26)) hu
  have e := roomR_of p.rows
  have hb : -1000000 ≤ leftR p.rows ∧ leftR p.rows ≤ 484 := by unfold leftR; omega
  have E := Lib.hid e
  have B := Lib.hid ((Below.refl w.heap.size w).alloc (Nat.le_refl _) (.cells (pgC p v) 26))
  unfold pgC pgV at L
  have LL := Lib.hid L
  generalize leftR p.rows = x at *
  clear L e h hu
  unfold pgV
  go_enter Try.func15, Try.ntmps15
  go_wp2_with fail
  refine LL.out.mono ?_
  rintro e w' ⟨rfl, b⟩
  have B2 := Lib.hid (B.out.trans (b.mono B.out.size))
  clear b
  go_wp2_with fail
  all_goals
    go_ret
    refine ⟨?_, B2.out⟩
    rw [← E.out]
    first
    | (rw [if_pos (by omega)]; rfl)
    | (rw [if_neg (by omega)]; rfl)

set_option maxRecDepth 100000 in
set_option maxHeartbeats 1000000 in
theorem rmay_any {w : World} {v : Value} (p : Pg) (h : Rows w v p.rows) (hu : used p.rows ≤ 1000000) : Calls Try.prog 13 #[pgV p v] w fun e w' => e = .returned (.bool (mayP p)) ∧ Below w.heap.size w w' := by
  have L := rleft_any p (h.alloc (.cells (pgC p v) 26)) hu
  have e := mayR_of p
  have E := Lib.hid e
  have B := Lib.hid ((Below.refl w.heap.size w).alloc (Nat.le_refl _) (.cells (pgC p v) 26))
  unfold pgC pgV at L
  have LL := Lib.hid L
  generalize leftR p.rows = x at *
  generalize mayP p = y at *
  obtain ⟨kind, level, id, lsn, next, rows⟩ := p
  simp only at *
  clear L e h hu
  unfold pgV
  simp only
  go_enter Try.func13, Try.ntmps13
  go_wp2_with (go_at_call 31; refine LL.out.mono ?_; rintro e w' ⟨rfl, b⟩)
  all_goals
    have hr : ∀ z : Bool, y = z → (Ending.returned (.bool z) : Ending) = .returned (.bool y) := fun z hz => by rw [hz]
    go_ret
    refine ⟨hr _ (by rw [E.out, Bool.eq_iff_iff]; simp only [Bool.and_eq_true, decide_eq_true_eq, Bool.false_eq_true, iff_false]; omega), ?_⟩
    first
    | exact B.out
    | exact B.out.trans (b.mono B.out.size)

end Go.Proofs.Ytmandeohbiagfaa.Page

namespace Go.Proofs.Ytmandeohbiagfaa.Page
open Go.RowKit
attribute [local go_sem ↓] Go.wp_at_zero Go.wp_at_succ

theorem cell_box (w : World) (o : Obj) (p : Pg) (v : Value) : ((w.alloc (.cells (pgC p v) 26)).alloc o).cell? ⟨w.heap.size, 5, none⟩ = some v := by
  have hb := (Below.refl (w.alloc (.cells (pgC p v) 26)).heap.size (w.alloc (.cells (pgC p v) 26))).alloc (Nat.le_refl _) o
  rw [hb.cell (p := ⟨w.heap.size, 5, none⟩) (by simp)]
  exact pgC_cell w p v
theorem cell_box2 (w : World) (o : Obj) (q : Pg) (v : Value) : ((w.alloc o).alloc (.cells (pgC q v) 26)).cell? ⟨w.heap.size + 1, 5, none⟩ = some v := by
  have := pgC_cell (w.alloc o) q v
  rw [show (w.alloc o).heap.size = w.heap.size + 1 by simp] at this
  exact this
theorem toList_data (s : ByteArray) : s.toList = s.data.toList := by
  cases s; rw [ByteArray.toList_mk]
theorem beq_yes (s : ByteArray) : (s.toList == s.toList) = true := by simp
theorem beq_no {s t : ByteArray} (h : ¬ s = t) : (s.toList == t.toList) = false := by
  rw [beq_eq_false_iff_ne]
  intro e
  rw [toList_data, toList_data] at e
  exact h (ByteArray.ext (Array.toList_inj.1 e))
theorem ext_nth {l m : List ByteArray} (hl : l.length = m.length) (h : ∀ j, j < l.length → nth l j = nth m j) : l = m := by
  apply List.ext_getElem hl
  intro i h1 h2
  rw [nth_elem h1, nth_elem h2, h i h1]

set_option maxRecDepth 100000 in
set_option maxHeartbeats 2000000 in
theorem rsame_no {w : World} (a1 a2 : Option Addr) (c1 c2 m1 m2 kind level id lsn next kind2 level2 id2 lsn2 next2 : Nat) (hh : ¬ (kind = kind2 ∧ level = level2 ∧ id = id2 ∧ lsn = lsn2 ∧ next = next2 ∧ m1 = m2)) :
    Calls Try.prog 17 #[.agg #[.int .u8 (kind : Int), .int .u8 (level : Int), .int .u32 (id : Int), .int .u64 (lsn : Int), .int .u32 (next : Int), .slice a1 m1 c1], .agg #[.int .u8 (kind2 : Int), .int .u8 (level2 : Int), .int .u32 (id2 : Int), .int .u64 (lsn2 : Int), .int .u32 (next2 : Int), .slice a2 m2 c2]] w
      fun e w' => e = .returned (.bool false) ∧ Below w.heap.size w w' := by
  by_cases hm : m1 = m2
  · subst hm
    have hm2 : ((m1 : Int) != (m1 : Int)) = false := by simp
    go_enter Try.func17, Try.ntmps17
    go_wp2_with fail
    all_goals first
      | (exfalso; omega)
      | (go_ret; exact ⟨rfl, below2 w _ _⟩)
  · have hm2 : ((m1 : Int) != (m2 : Int)) = true := by simp; omega
    go_enter Try.func17, Try.ntmps17
    go_wp2_with fail
    all_goals (go_ret; exact ⟨rfl, below2 w _ _⟩)

set_option maxRecDepth 100000 in
set_option maxHeartbeats 2000000 in
theorem rsame_yes {w : World} (a1 a2 : Option Addr) (c1 c2 kind level id lsn next : Nat) (l1 l2 : List ByteArray) (h1 : Rows w (.slice a1 l1.length c1) l1) (h2 : Rows w (.slice a2 l2.length c2) l2) (hl : l1.length = l2.length) (n1 : l1.length ≤ 1000000) :
    Calls Try.prog 17 #[.agg #[.int .u8 (kind : Int), .int .u8 (level : Int), .int .u32 (id : Int), .int .u64 (lsn : Int), .int .u32 (next : Int), .slice a1 l1.length c1], .agg #[.int .u8 (kind : Int), .int .u8 (level : Int), .int .u32 (id : Int), .int .u64 (lsn : Int), .int .u32 (next : Int), .slice a2 l2.length c2]] w
      fun e w' => e = .returned (.bool (decide (l1 = l2))) ∧ Below w.heap.size w w' := by
  obtain ⟨m, hm⟩ : ∃ m, m = l1.length := ⟨_, rfl⟩
  have e2 : l2.length = m := by omega
  rw [← hm] at h1 n1
  rw [e2] at h2
  rw [← hm, e2]
  have M := Lib.hid hm
  have M2 := Lib.hid e2
  have k1 := cell_box w (.cells (pgC ⟨kind, level, id, lsn, next, []⟩ (.slice a2 m c2)) 26) ⟨kind, level, id, lsn, next, []⟩ (.slice a1 m c1)
  have k2 := cell_box2 w (.cells (pgC ⟨kind, level, id, lsn, next, []⟩ (.slice a1 m c1)) 26) ⟨kind, level, id, lsn, next, []⟩ (.slice a2 m c2)
  have r1 := (h1.alloc (.cells (pgC ⟨kind, level, id, lsn, next, []⟩ (.slice a1 m c1)) 26)).alloc (.cells (pgC ⟨kind, level, id, lsn, next, []⟩ (.slice a2 m c2)) 26)
  have r2 := (h2.alloc (.cells (pgC ⟨kind, level, id, lsn, next, []⟩ (.slice a1 m c1)) 26)).alloc (.cells (pgC ⟨kind, level, id, lsn, next, []⟩ (.slice a2 m c2)) 26)
  have hB := below2 w (.cells (pgC ⟨kind, level, id, lsn, next, []⟩ (.slice a1 m c1)) 26) (.cells (pgC ⟨kind, level, id, lsn, next, []⟩ (.slice a2 m c2)) 26)
  have hsz : ((w.alloc (.cells (pgC ⟨kind, level, id, lsn, next, []⟩ (.slice a1 m c1)) 26)).alloc (.cells (pgC ⟨kind, level, id, lsn, next, []⟩ (.slice a2 m c2)) 26)).heap.size = w.heap.size + 2 := by simp
  obtain ⟨W, hW⟩ : ∃ W, W = (w.alloc (.cells (pgC ⟨kind, level, id, lsn, next, []⟩ (.slice a1 m c1)) 26)).alloc (.cells (pgC ⟨kind, level, id, lsn, next, []⟩ (.slice a2 m c2)) 26) := ⟨_, rfl⟩
  rw [← hW] at k1 k2 r1 r2 hB hsz
  have hm2 : ((m : Int) != (m : Int)) = false := by simp
  have B := Lib.hid hB
  have SZ := Lib.hid hsz
  have R1 := Lib.hid r1
  have R2 := Lib.hid r2
  have K1 := Lib.hid k1
  have K2 := Lib.hid k2
  have HW := Lib.hid hW
  obtain ⟨g, hg⟩ : ∃ g, g = w.heap.size := ⟨_, rfl⟩
  have G := Lib.hid hg
  clear h1 h2 k1 k2 r1 r2 hB hsz hW hm e2 hl hg
  go_enter Try.func17, Try.ntmps17
  go_wp2_with fail
  clear hm2
  change Code.wp _ _ _ _ ((w.alloc (.cells (pgC ⟨kind, level, id, lsn, next, []⟩ (.slice a1 m c1)) 26)).alloc (.cells (pgC ⟨kind, level, id, lsn, next, []⟩ (.slice a2 m c2)) 26))
  rw [← HW.out]
  go_loopw [5] (fun i wr => ∃ k : Nat, k ≤ m ∧ i = .int .i64 k ∧ Below W.heap.size W wr ∧ ∀ j, j < k → nth l1 j = nth l2 j) (fun i _ => m - (intOf i).toNat)
  case atStart => exact ⟨0, by omega, by go_num, Below.refl _ _, fun j hj => by omega⟩
  case round =>
    obtain ⟨k, hk, rfl, hb, heq⟩ := hrel
    have g1 : wr.cell? ⟨w.heap.size, 5, none⟩ = some (.slice a1 m c1) := (hb.cell (p := ⟨w.heap.size, 5, none⟩) (by rw [SZ.out]; simp)).trans K1.out
    have g2 : wr.cell? ⟨w.heap.size + 1, 5, none⟩ = some (.slice a2 m c2) := (hb.cell (p := ⟨w.heap.size + 1, 5, none⟩) (by rw [SZ.out]; simp)).trans K2.out
    have HB := Lib.hid hb
    have HE := Lib.hid heq
    clear hb heq
    by_cases hlt : k < m
    · have q1 := R1.out.later HB.out
      have q2 := R2.out.later HB.out
      rw [M.out] at q1
      rw [← M2.out] at q2
      obtain ⟨b1, o1, rfl, _, d1⟩ := q1.at (k := k) (by rw [← M.out]; exact hlt)
      obtain ⟨b2, o2, rfl, _, d2⟩ := q2.at (k := k) (by rw [M2.out]; exact hlt)
      clear q1 q2
      obtain ⟨s1, hs1⟩ : ∃ s, s = nth l1 k := ⟨_, rfl⟩
      obtain ⟨s2, hs2⟩ : ∃ s, s = nth l2 k := ⟨_, rfl⟩
      rw [← hs1] at d1
      rw [← hs2] at d2
      have S1 := Lib.hid hs1
      have S2 := Lib.hid hs2
      clear hs1 hs2
      by_cases hs : s1 = s2
      · have e1 : (s1.toList == s2.toList) = true := by rw [hs]; exact beq_yes s2
        have NB := Lib.hid (HB.out.trans ((Below.refl wr.heap.size wr).drew.mono HB.out.size))
        have NE := Lib.hid (show ∀ j, j < k + 1 → nth l1 j = nth l2 j from fun j hj => by
          by_cases e : j = k
          · subst e; rw [← S1.out, ← S2.out, hs]
          · exact HE.out j (by omega))
        clear hs
        go_wp2_with fail
        go_region
        go_wp2_with fail
        go_roundw
        case rel => exact ⟨k + 1, by omega, by go_num, NB.out, NE.out⟩
        case measure => simp [intOf]; omega
      · have e1 : (s1.toList == s2.toList) = false := beq_no hs
        have NB := Lib.hid (HB.out.trans ((Below.refl wr.heap.size wr).drew.mono HB.out.size))
        have NE := Lib.hid (show decide (l1 = l2) = false from decide_eq_false (by rintro rfl; exact hs (S1.out.trans S2.out.symm)))
        clear hs
        go_wp2_with fail
        go_region
        go_wp2_with fail
        go_ret
        exact ⟨by rw [NE.out]; rfl, B.out.trans (NB.out.mono B.out.size)⟩
    · obtain rfl : k = m := by omega
      have NE := Lib.hid (show decide (l1 = l2) = true from decide_eq_true (ext_nth (by rw [M2.out, ← M.out]) (by rw [← M.out]; exact HE.out)))
      go_wp2_with fail
      go_ret
      exact ⟨by rw [NE.out]; rfl, B.out.trans (HB.out.mono B.out.size)⟩

theorem rsame_any {w : World} {v1 v2 : Value} (p q : Pg) (h1 : Rows w v1 p.rows) (h2 : Rows w v2 q.rows) (n1 : p.rows.length ≤ 1000000) :
    Calls Try.prog 17 #[pgV p v1, pgV q v2] w fun e w' => e = .returned (.bool (sameB p q)) ∧ Below w.heap.size w w' := by
  obtain ⟨a1, c1, rfl, _⟩ := id h1
  obtain ⟨a2, c2, rfl, _⟩ := id h2
  obtain ⟨kind, level, id, lsn, next, rows⟩ := p
  obtain ⟨kind2, level2, id2, lsn2, next2, rows2⟩ := q
  simp only at *
  by_cases hh : kind = kind2 ∧ level = level2 ∧ id = id2 ∧ lsn = lsn2 ∧ next = next2 ∧ rows.length = rows2.length
  · obtain ⟨rfl, rfl, rfl, rfl, rfl, hl⟩ := hh
    have e : sameB ⟨kind, level, id, lsn, next, rows⟩ ⟨kind, level, id, lsn, next, rows2⟩ = decide (rows = rows2) := by simp [sameB]
    rw [e]
    exact rsame_yes a1 a2 c1 c2 kind level id lsn next rows rows2 h1 h2 hl n1
  · have e : sameB ⟨kind, level, id, lsn, next, rows⟩ ⟨kind2, level2, id2, lsn2, next2, rows2⟩ = false := by
      unfold sameB
      rw [decide_eq_false_iff_not]
      rintro ⟨rfl, rfl, rfl, rfl, rfl, rfl⟩
      exact hh ⟨rfl, rfl, rfl, rfl, rfl, rfl⟩
    rw [e]
    exact rsame_no a1 a2 c1 c2 rows.length rows2.length kind level id lsn next kind2 level2 id2 lsn2 next2 hh

end Go.Proofs.Ytmandeohbiagfaa.Page

namespace Go.Proofs.Ytmandeohbiagfaa.Page
open Go.RowKit
open Go.Proofs.Ytmandeohbiagfaa.Sum (isSealed sealL openT)
attribute [local go_sem ↓] Go.wp_at_zero Go.wp_at_succ

theorem pgC_hd {s T t A : ByteArray} (h : Cuts s T t A) (v : Value) : pgC (hdP t 6) v = pgC (parse s) v := by
  have e0 := h.num 0 1 (by omega)
  have e1 := h.num 1 1 (by omega)
  have e2 := h.num 2 4 (by omega)
  have e3 := h.num 6 8 (by omega)
  have e4 := h.num 14 4 (by omega)
  show pgC ⟨numAt t 0 1, numAt t 1 1, numAt t 2 4, numAt t 6 8, numAt t 14 4, []⟩ v = pgC ⟨nAt s 0 1, nAt s 1 1, nAt s 2 4, nAt s 6 8, nAt s 14 4, _⟩ v
  rw [e0, e1, e2, e3, e4]
  rfl
/-- rows stand in no block of a page's cells -/
theorem rows_ne {w : World} {v : Value} {l : List ByteArray} {g : Nat} (h : Rows w v l) (hg : w.heap[g]? = some (.cells zeroP 26 (0, 0))) (cs : Array Value) : Rows (w.setRow g cs) v l := by
  obtain ⟨ad, c, hv, h1⟩ := h
  refine ⟨ad, c, hv, h1.imp id ?_⟩
  rintro ⟨b, o, ha, hb, hc⟩
  by_cases hl : l.length = 0
  · exact ⟨b, o, ha, by simpa [World.setRow] using hb, fun j hj => by omega⟩
  · have hne : b ≠ g := by
      rintro rfl
      have h0 := hc 0 (by omega)
      rw [cell_of_row _ _ _ _ _ _ hg] at h0
      have hm : Value.string (nth l 0) ∈ zeroP := Array.mem_of_getElem? h0
      simp [zeroP] at hm
    refine ⟨b, o, ha, by simpa [World.setRow] using hb, fun j hj => ?_⟩
    rw [World.cell?_of_block (w := w) (setRow_other w g b cs hne)]
    exact hc j hj
theorem pg_one (p : Pg) (ad : Option Addr) (n c : Nat) : (pgC p (.slice ad n c)).all (·.oneCell') = true := Array.all_eq_true_iff_forall_mem.2 (by
  intro v hv
  simp [pgC] at hv
  rcases hv with rfl | rfl | rfl | rfl | rfl | rfl <;> rfl)

set_option maxRecDepth 100000 in
set_option maxHeartbeats 4000000 in
theorem decode_core (s : ByteArray) (w : World) (h : s.size = 512) (hs : isSealed s.data.toList = true) (hl : Slot.Loads (areaS s)) {q : Pg} {c : Int} (hq : Dec s q c) : Calls Try.prog 18 #[.string s] w (DecPost q c w) := by
  have e1 : ((s.size : Int) != 512) = false := by rw [h]; rfl
  obtain ⟨T, t, A, hC⟩ := cuts_of h hs
  have O := Sum.open_any s (w.alloc (.cells zeroP 26)) (by omega)
  rw [hs, hC.open'] at O
  unfold zeroP at O
  have OO := Lib.hid O
  have B := Lib.hid ((Below.refl w.heap.size w).alloc (Nat.le_refl _) (.cells zeroP 26))
  have e2 : ((T.size : Int) - 488) = 20 := by rw [hC.size]; rfl
  have c1 : ∀ W, (Instr.sliceAt 9 (.string T) (some (.int .i64 20)) none none).run Try.prog W = .ok (.string A) W := fun W => by
    rw [hC.area]; exact Sum.cut_high T 20 (by have := hC.size; omega) W
  have c2 : ∀ W, (Instr.sliceAt 9 (.string T) none (some (.int .i64 20)) none).run Try.prog W = .ok (.string t) W := fun W => by
    rw [hC.head]; exact Sum.cut_low T 20 (by have := hC.size; omega) W
  have hA : A.size ≤ 281474976710656 := by rw [hC.area, ByteArray.size_extract, hC.size]; decide
  have RO := Lib.hid (fun W => rowsOf_any A W hA)
  have HL := Lib.hid hl
  have HD := Lib.hid hC.data
  have RD := Lib.hid (fun (W : World) (hd : Nat) (v : Value) (hh : W.heap[hd]? = some (.cells (pgC (hdP t 0) v) 50 (0, 0))) => read_any hC.tsize hh)
  have PC := Lib.hid (fun v => pgC_hd hC v)
  have PU := Lib.hid (parse_used h hl)
  have PE := Lib.hid (fun (W : World) (v : Value) (hr : Rows W v (parse s).rows) => encode_any (parse s) (parse_wf s) hr PU.out)
  have RT := Lib.hid (show Slot.Loads A.data.toList ∧ rowsT A.data.toList = (parse s).rows from by rw [hC.data]; exact ⟨hl, rfl⟩)
  have DQ := Lib.hid hq
  have SZ := Lib.hid h
  obtain ⟨P, hP⟩ : ∃ P, P = parse s := ⟨_, rfl⟩
  have EP := Lib.hid hP
  rw [← hP] at PC PU PE RT
  clear h hs O hC hl hA hq hP
  go_enter Try.func18, Try.ntmps18
  go_wp2_with fail
  refine OO.out.mono ?_
  rintro e w1 ⟨rfl, b1⟩
  have hb := (b1.block w.heap.size (by simp)).trans (heap_alloc_new w _)
  have HB := Lib.hid (show w1.heap[w.heap.size]? = some (.cells zeroP 26 (0, 0)) from hb)
  have B1 := Lib.hid (B.out.trans (b1.mono B.out.size))
  clear hb b1 OO
  go_wp2_with fail
  refine (RO.out _).mono ?_
  rintro e w2 ⟨b2, ⟨_, v, rfl, hr⟩ | ⟨k1, _⟩⟩
  · rw [RT.out.2] at hr
    have HB2 := Lib.hid ((b2.block w.heap.size (Array.getElem?_eq_some_iff.1 HB.out).1).trans HB.out)
    have B2 := Lib.hid (B1.out.trans (b2.mono B1.out.size))
    have R2 := Lib.hid hr
    clear b2 c1 hr
    go_wp2_with fail
    have hh : (w2.alloc (.cells zeroP 50)).heap[w2.heap.size]? = some (.cells (pgC (hdP t 0) (.slice none 0 0)) 50 (0, 0)) := heap_alloc_new w2 _
    have RDD := Lib.hid (RD.out _ _ _ hh)
    clear hh
    refine RDD.out.mono ?_
    rintro e w3 ⟨rfl, h3, t3⟩
    have BA := Lib.hid ((Below.refl w2.heap.size w2).alloc (Nat.le_refl _) (.cells zeroP 50))
    have B3 := Lib.hid (BA.out.trans (t3.below (B := w2.heap.size) BA.out.size (fun x hx => by rw [hx]; exact Nat.le_refl _)))
    rw [PC.out] at h3
    obtain ⟨ad, cv, rfl, _⟩ := id R2.out
    obtain ⟨n, hn⟩ : ∃ n, n = P.rows.length := ⟨_, rfl⟩
    have R3 := Lib.hid R2.out
    rw [← hn] at R3
    rw [← hn]
    have d0 : w3.cell? ⟨w2.heap.size, 0, none⟩ = some (.int .u8 (P.kind : Int)) := by rw [cell_of_row _ _ _ _ _ _ h3]; rfl
    have d1 : w3.cell? ⟨w2.heap.size, 1, none⟩ = some (.int .u8 (P.level : Int)) := by rw [cell_of_row _ _ _ _ _ _ h3]; rfl
    have d2 : w3.cell? ⟨w2.heap.size, 2, none⟩ = some (.int .u32 (P.id : Int)) := by rw [cell_of_row _ _ _ _ _ _ h3]; rfl
    have d3 : w3.cell? ⟨w2.heap.size, 3, none⟩ = some (.int .u64 (P.lsn : Int)) := by rw [cell_of_row _ _ _ _ _ _ h3]; rfl
    have d4 : w3.cell? ⟨w2.heap.size, 4, none⟩ = some (.int .u32 (P.next : Int)) := by rw [cell_of_row _ _ _ _ _ _ h3]; rfl
    have d5 : w3.cell? ⟨w2.heap.size, 5, none⟩ = some (.slice none 0 0) := by rw [cell_of_row _ _ _ _ _ _ h3]; rfl
    have fz : w3.frozen? ⟨w2.heap.size, 5, none⟩ = false := frozen_of_row _ _ _ _ _ h3
    have B4 := Lib.hid (B3.out.setCell (p := ⟨w2.heap.size, 5, none⟩) (Nat.le_refl _) (.slice ad n cv))
    clear h3 t3 hn R2 RDD BA B3
    go_wp2_with fail
    clear d0 d1 d2 d3 d4 d5 fz
    have B5 := Lib.hid (B4.out.alloc B4.out.size (.cells (pgC P (.slice ad n cv)) 26))
    have HP := Lib.hid (show ((w3.setCell ⟨w2.heap.size, 5, none⟩ (.slice ad n cv)).alloc (.cells (pgC P (.slice ad n cv)) 26)).heap[w3.heap.size]? = some (.cells (pgC P (.slice ad n cv)) 26 (0, 0)) by
      rw [show w3.heap.size = (w3.setCell ⟨w2.heap.size, 5, none⟩ (.slice ad n cv)).heap.size by simp]
      exact heap_alloc_new _ _)
    have R5 := Lib.hid (R3.out.later B5.out)
    have HB5 := Lib.hid ((B5.out.block w.heap.size (Array.getElem?_eq_some_iff.1 HB2.out).1).trans HB2.out)
    have BB5 := Lib.hid (B2.out.trans (B5.out.mono B2.out.size))
    have PF := Lib.hid (PE.out _ _ R5.out)
    change Calls Try.prog _ #[pgV P (.slice ad n cv)] ((w3.setCell ⟨w2.heap.size, 5, none⟩ (.slice ad n cv)).alloc (.cells (pgC P (.slice ad n cv)) 26)) _
    clear B4 B5 HB2 B2 R3 PE RD RO HB B1 PC
    generalize (w3.setCell ⟨w2.heap.size, 5, none⟩ (.slice ad n cv)).alloc (.cells (pgC P (.slice ad n cv)) 26) = W6 at *
    generalize w3.heap.size = gp at *
    have fin : ∀ w4, Below W6.heap.size W6 w4 → w4.heap[gp]? = some (.cells (pgC P (.slice ad n cv)) 26 (0, 0)) ∧ w4.heap[w.heap.size]? = some (.cells zeroP 26 (0, 0)) ∧ Rows w4 (.slice ad n cv) P.rows ∧ Below w.heap.size w w4 := fun w4 b4 =>
      ⟨(b4.block _ (Array.getElem?_eq_some_iff.1 HP.out).1).trans HP.out, (b4.block _ (Array.getElem?_eq_some_iff.1 HB5.out).1).trans HB5.out, R5.out.later b4, BB5.out.trans (b4.mono BB5.out.size)⟩
    have FIN := Lib.hid fin
    clear fin HP HB5 R5 BB5
    rcases DQ.out with ⟨hp, rfl, rfl⟩ | ⟨hn, rfl, rfl⟩
    · have E0 : encE P = 0 := by unfold encE; rw [EP.out, if_pos hp.may]
      have E1 : encS P = s := by rw [EP.out]; exact hp.bytes
      rw [E0, E1] at PF
      have eb := beq_yes s
      clear E0 E1 hp
      refine PF.out.mono ?_
      rintro e w4 ⟨rfl, b4⟩
      obtain ⟨f1, f2, f3, f4⟩ := FIN.out w4 b4
      have g0 : w4.cell? ⟨gp, 0, none⟩ = some (.int .u8 (P.kind : Int)) := by rw [cell_of_row _ _ _ _ _ _ f1]; rfl
      have g1 : w4.cell? ⟨gp, 1, none⟩ = some (.int .u8 (P.level : Int)) := by rw [cell_of_row _ _ _ _ _ _ f1]; rfl
      have g2 : w4.cell? ⟨gp, 2, none⟩ = some (.int .u32 (P.id : Int)) := by rw [cell_of_row _ _ _ _ _ _ f1]; rfl
      have g3 : w4.cell? ⟨gp, 3, none⟩ = some (.int .u64 (P.lsn : Int)) := by rw [cell_of_row _ _ _ _ _ _ f1]; rfl
      have g4 : w4.cell? ⟨gp, 4, none⟩ = some (.int .u32 (P.next : Int)) := by rw [cell_of_row _ _ _ _ _ _ f1]; rfl
      have g5 : w4.cell? ⟨gp, 5, none⟩ = some (.slice ad n cv) := by rw [cell_of_row _ _ _ _ _ _ f1]; rfl
      have F2 := Lib.hid f2
      have F3 := Lib.hid f3
      have F4 := Lib.hid f4
      clear b4 f1 f2 f3 f4 PF FIN
      go_wp2_with (refine wpList_store_row rfl 26 _ _ rfl w.heap.size (pgC P (.slice ad n cv)) rfl rfl 26 zeroP F2.out info_page rfl (pg_one _ _ _ _) ?_)
      refine bodyPost_ret (v := .tuple #[pgV P (.slice ad n cv), .int .i64 0]) (results_page Try.results18 _ _ w.heap.size (pgC P (.slice ad n cv)) 0 rfl rfl (setRow_heap _ _ _ _ _ _ F2.out) info_page) rfl ⟨below_setRow F4.out (Nat.le_refl _) _, .slice ad n cv, ?_, ?_⟩
      · rw [EP.out]
      · rw [← EP.out]
        exact rows_ne F3.out F2.out _
    · have hcase : (mayP P = true ∧ ¬ encS P = s) ∨ mayP P = false := by
        cases hm : mayP P with
        | false => exact .inr rfl
        | true =>
          refine .inl ⟨rfl, fun e => hn ⟨SZ.out, HL.out, ?_, ?_⟩⟩
          · rw [← EP.out]; exact hm
          · rw [← EP.out]; exact e
      clear hn DQ
      rcases hcase with ⟨hm, hne⟩ | hm
      · have E0 : encE P = 0 := by unfold encE; rw [if_pos hm]
        rw [E0] at PF
        have eb := beq_no hne
        clear E0 hm hne
        generalize encS P = X at *
        refine PF.out.mono ?_
        rintro e w4 ⟨rfl, b4⟩
        obtain ⟨f1, f2, f3, f4⟩ := FIN.out w4 b4
        have F2 := Lib.hid f2
        have F4 := Lib.hid f4
        clear b4 f1 f2 f3 f4 PF FIN
        go_wp2_with (refine wpList_store_row rfl 26 _ _ rfl w.heap.size zeroP rfl rfl 26 zeroP F2.out info_page rfl zero_one ?_)
        exact bodyPost_ret (v := .tuple #[pgV Pg.zero (.slice none 0 0), .int .i64 60]) (results_page Try.results18 _ _ w.heap.size zeroP 60 rfl rfl (setRow_heap _ _ _ _ _ _ F2.out) info_page) rfl (DecPost.none (below_setRow F4.out (Nat.le_refl _) _))
      · have E0 : encE P = 2 := by unfold encE; rw [if_neg (by rw [hm]; decide)]
        rw [E0] at PF
        clear E0 hm
        generalize encS P = X at *
        refine PF.out.mono ?_
        rintro e w4 ⟨rfl, b4⟩
        obtain ⟨f1, f2, f3, f4⟩ := FIN.out w4 b4
        have F2 := Lib.hid f2
        have F4 := Lib.hid f4
        clear b4 f1 f2 f3 f4 PF FIN
        go_wp2_with (refine wpList_store_row rfl 26 _ _ rfl w.heap.size zeroP rfl rfl 26 zeroP F2.out info_page rfl zero_one ?_)
        exact bodyPost_ret (v := .tuple #[pgV Pg.zero (.slice none 0 0), .int .i64 60]) (results_page Try.results18 _ _ w.heap.size zeroP 60 rfl rfl (setRow_heap _ _ _ _ _ _ F2.out) info_page) rfl (DecPost.none (below_setRow F4.out (Nat.le_refl _) _))
  · exact absurd RT.out.1 k1

theorem decode_any (s : ByteArray) (w : World) (hs : s.size ≤ 281474976710656) {q : Pg} {c : Int} (hq : Dec s q c) : Calls Try.prog 18 #[.string s] w (DecPost q c w) := by
  have no : ¬ IsPage s → q = Pg.zero ∧ c = 60 := fun hn => by
    rcases hq with ⟨h, _⟩ | ⟨_, h⟩
    · exact absurd h hn
    · exact h
  by_cases h : s.size = 512
  · cases hse : isSealed s.data.toList with
    | false =>
      obtain ⟨rfl, rfl⟩ := no fun hp => by have := page_sealed hp; rw [hse] at this; cases this
      exact decode_seal s w h hse
    | true =>
      by_cases hl : Slot.Loads (areaS s)
      · exact decode_core s w h hse hl hq
      · obtain ⟨rfl, rfl⟩ := no fun hp => hl hp.loads
        exact decode_form s w h hse hl
  · obtain ⟨rfl, rfl⟩ := no fun hp => h hp.size
    exact decode_size s w hs h

end Go.Proofs.Ytmandeohbiagfaa.Page

namespace Go.Proofs.Ytmandeohbiagfaa.Slot
open Go.RowKit
attribute [local go_sem ↓] Go.wp_at_zero Go.wp_at_succ

section
variable {w : World} {q : Nat} {a : A} {F : Nat → Prop}
set_option maxRecDepth 100000 in
theorem qend_any (H : Rf w q a F) (hd : a.dir.length ≤ 100000) : Calls Try.prog 79 #[.pointer (some ⟨q, 0, none⟩)] w fun e w' => e = .returned (.int .i64 ((a.fin : Nat) : Int)) ∧ w = w' := by
  obtain ⟨h, cB, v, L, _⟩ := H.lay
  have c2 := L.cell2
  obtain ⟨ad, cap, rfl⟩ := L.dl.shape
  have hf : a.fin = 4 + 4 * a.dir.length := rfl
  obtain ⟨n, hn⟩ : ∃ n, n = a.dir.length := ⟨_, rfl⟩
  rw [← hn] at c2 hd hf
  obtain ⟨F', hF⟩ : ∃ F', F' = a.fin := ⟨_, rfl⟩
  rw [← hF] at hf ⊢
  have HF := Lib.hid hf
  clear L H hn hf hF
  go_enter Try.func79, Try.ntmps79
  go_wp2_with fail
  go_ret
  exact ⟨ret_int (by rw [HF.out]; omega), rfl⟩
set_option maxRecDepth 100000 in
set_option maxHeartbeats 1000000 in
theorem qgap_any (H : Rf w q a F) (hd : a.dir.length ≤ 100000) (hl : a.low ≤ 100000) : Calls Try.prog 48 #[.pointer (some ⟨q, 0, none⟩)] w fun e w' => e = .returned (.int .i64 ((a.low : Int) - (a.fin : Int))) ∧ Below w.heap.size w w' := by
  have en := Lib.hid (fun W (t : Below w.heap.size w W) => qend_any (H.later t) hd)
  obtain ⟨h, cB, v, L, _⟩ := H.lay
  have c1 := L.cell1
  have hf : a.fin ≤ 1000000 := by unfold A.fin; omega
  generalize a.fin = f at *
  generalize a.low = l at *
  clear L H
  go_enter Try.func48, Try.ntmps48
  go_wp2_with fail
  go_quiet ((go_at_call 79; first | exact quiet_same (en.out _ (below_drewN (Below.refl _ _) _)) | exact quiet_same0 (en.out _ (Below.refl _ _))))
  go_wp2_with fail
  go_ret
  exact ⟨ret_int (by first | rfl | omega), below_drewN (Below.refl _ _) _⟩
set_option maxRecDepth 100000 in
set_option maxHeartbeats 2000000 in
theorem qfree_any (H : Rf w q a F) (hd : a.dir.length ≤ 100000) (hn : a.n ≤ 100000) (ht : tot a.dir ≤ 100000) : Calls Try.prog 47 #[.pointer (some ⟨q, 0, none⟩)] w fun e w' => e = .returned (.int .i64 ((a.n : Int) - (a.fin : Int) - (tot a.dir : Int))) ∧ Below w.heap.size w w' := by
  have en := Lib.hid (fun W (t : Below w.heap.size w W) => qend_any (H.later t) hd)
  have HH := Lib.hid H
  obtain ⟨h, cB, v, L, _⟩ := H.lay
  have c0 := L.cell0
  obtain ⟨ad, cap, rfl⟩ := L.dl.shape
  have c2 := L.cell2
  have hf : a.fin ≤ 1000000 := by unfold A.fin; omega
  have HL := Lib.hid L
  obtain ⟨n, en'⟩ : ∃ n, n = a.dir.length := ⟨_, rfl⟩
  have HN := Lib.hid en'
  rw [← en'] at c2 hd
  generalize a.fin = f at *
  generalize a.n = m at *
  have f0 : (0 : Int) ≤ (f : Int) := Int.natCast_nonneg _
  have f1 : (f : Int) ≤ 1000000 := by omega
  have m0 : (0 : Int) ≤ (m : Int) := Int.natCast_nonneg _
  have m1 : (m : Int) ≤ 100000 := by omega
  have n1 : (n : Int) ≤ 100000 := by omega
  have HT := Lib.hid ht
  clear L H en' hf ht
  go_enter Try.func47, Try.ntmps47
  go_wp2_with fail
  go_quiet ((go_at_call 79; first | exact quiet_same (en.out _ (below_drewN (Below.refl _ _) _)) | exact quiet_same0 (en.out _ (Below.refl _ _))))
  go_wp2_with fail
  go_loop [3, 4] (fun v i => ∃ k : Nat, k ≤ n ∧ i = .int .i64 k ∧ v = .int .i64 ((m : Int) - (f : Int) - (tot (a.dir.take k) : Int))) (fun _ i => n - (intOf i).toNat)
  case atStart => exact ⟨0, by omega, by go_num, by simp [tot]⟩
  case round =>
    obtain ⟨k, hk, rfl, rfl⟩ := hrel
    have t1 := tot_take_le a.dir k
    by_cases hlt : k < n
    · obtain ⟨g, rfl, _, d2, _⟩ := HL.out.dl.at (k := k) (by rw [← HN.out]; exact hlt)
      have tk : tot (a.dir.take (k + 1)) = tot (a.dir.take k) + (a.dir.getD k (0, 0)).2 := tot_take (by rw [← HN.out]; exact hlt)
      have t2 := tot_take_le a.dir (k + 1)
      have HT2 := HT.out
      obtain ⟨T, eT⟩ : ∃ T, T = tot (a.dir.take k) := ⟨_, rfl⟩
      obtain ⟨y, ey⟩ : ∃ y, y = (a.dir.getD k (0, 0)).2 := ⟨_, rfl⟩
      rw [← ey] at d2 tk
      rw [← eT] at tk t1 ⊢
      have T0 : (0 : Int) ≤ (T : Int) := Int.natCast_nonneg _
      have T1 : (T : Int) ≤ 100000 := by omega
      have y0 : (0 : Int) ≤ (y : Int) := Int.natCast_nonneg _
      have y1 : (y : Int) ≤ 100000 := by omega
      have k0 : (0 : Int) ≤ (k : Int) := Int.natCast_nonneg _
      have k1 : (k : Int) < (n : Int) := by omega
      have TK := Lib.hid tk
      clear eT ey tk t1 t2 HT2
      go_wp2_with fail
      go_round
      case rel => exact ⟨k + 1, by omega, by go_num, by rw [TK.out]; congr 1; omega⟩
      case measure => simp [intOf]; omega
    · obtain rfl : k = n := by omega
      go_wp2_with fail
      go_ret
      exact ⟨by rw [HN.out, List.take_length]; rfl, below_drewN (Below.refl _ _) _⟩
set_option maxRecDepth 100000 in
theorem two_any (n : Nat) (w : World) (hn : n < 65536) : Calls Try.prog 52 #[.int .i64 (n : Int)] w fun e w' => e = .returned (.string (strB (two n))) ∧ Below w.heap.size w w' := by
  have pt := rput_yes (n : Int) 2 w (by omega) (by omega) ⟨by omega, by omega⟩ (by
    have e : (n : Int) / 2 ^ (8 * 2) = 0 := Int.ediv_eq_zero_of_lt (by omega) (by omega)
    rw [e]; rfl)
  rw [bytesOf_two] at pt
  have PT := Lib.hid pt
  clear pt
  go_enter Try.func52, Try.ntmps52
  go_wp2_with fail
  refine PT.out.mono ?_
  rintro e w' ⟨rfl, b⟩
  have B := Lib.hid b
  clear b PT
  go_wp2_with fail
  go_ret
  exact ⟨rfl, B.out⟩
set_option maxRecDepth 100000 in
set_option maxHeartbeats 4000000 in
theorem qtext_any (H : Rf w q a F) {k : Nat} (hk : k < a.dir.length) (_hd : a.dir.length ≤ 100000) (hx : (a.at k).1 + (a.at k).2 ≤ a.n) (hn : a.n ≤ 100000) : Calls Try.prog 38 #[.pointer (some ⟨q, 0, none⟩), .int .i64 (k : Int)] w fun e w' => e = .returned (.string (strB (a.text k))) ∧ Below w.heap.size w w' := by
  obtain ⟨h, cB, v, L, _⟩ := H.lay
  have c0 := L.cell0
  obtain ⟨ad, cap, rfl⟩ := L.dl.shape
  have c2 := L.cell2
  obtain ⟨g, rfl, d1, d2, _⟩ := L.dl.at hk
  have hcap := L.cap
  have hat : a.dir.getD k (0, 0) = a.at k := rfl
  rw [hat] at d1 d2
  unfold A.text txt
  obtain ⟨x, ex⟩ : ∃ x, x = (a.at k).1 := ⟨_, rfl⟩
  obtain ⟨y, ey⟩ : ∃ y, y = (a.at k).2 := ⟨_, rfl⟩
  rw [← ex] at d1 hx ⊢
  rw [← ey] at d2 hx ⊢
  have sl := fun W => slice_part W (g := h) (n := a.n) (c := cB) (k := x) (m := x + y) (by omega) (by omega)
  rw [Nat.add_sub_cancel_left] at sl
  have hrow : ∀ m, Row (w.drewN m) h a.cells := fun m => L.row.far rfl
  have cv := fun m => (hrow m).str (c := cB) (k := x) (m := x + y) (by omega) hx hcap
  simp only [Nat.add_sub_cancel_left] at cv
  have x0 : (0 : Int) ≤ (x : Int) := Int.natCast_nonneg _
  have x1 : (x : Int) ≤ 100000 := by omega
  have y0 : (0 : Int) ≤ (y : Int) := Int.natCast_nonneg _
  have y1 : (y : Int) ≤ 100000 := by omega
  have k0 : (0 : Int) ≤ (k : Int) := Int.natCast_nonneg _
  have k1 : (k : Int) < (a.dir.length : Int) := by omega
  have e1 : ((x + y : Nat) : Int) = (x : Int) + (y : Int) := by omega
  rw [e1] at sl
  generalize strB ((a.cells.drop x).take y) = S at *
  obtain ⟨B, hB⟩ : ∃ B, B = base h x cB := ⟨_, rfl⟩
  rw [← hB] at sl cv
  obtain ⟨n, en'⟩ : ∃ n, n = a.dir.length := ⟨_, rfl⟩
  rw [← en'] at c2 k1
  generalize a.n = m at *
  clear L H ex ey hat hrow hB e1 en' _hd hk hx hn
  go_enter Try.func38, Try.ntmps38
  go_wp2_with fail
  go_quiet (fail)
  go_wp2_with fail
  go_ret
  exact ⟨rfl, below_drewN (Below.refl _ _) _⟩
end

end Go.Proofs.Ytmandeohbiagfaa.Slot

namespace Go.Proofs.Ytmandeohbiagfaa.Slot
open Go.RowKit

section
variable {a : A}
theorem putA_n (h : a.ok) (i : Int) (t : List UInt8) : (putA a i t).n = a.n := by
  unfold putA
  split
  · rename_i e
    unfold putE at e
    split at e
    · simp at e
    · split at e
      · simp at e
      · obtain ⟨r1, r2, r3, r4, r5, _⟩ := room_all h (t.length + 4)
        have := r5 (by omega)
        rw [← r2]
        exact lay_len r1 (by omega)
  · rfl
theorem remA_n (h : a.ok) (i : Int) : (remA a i).n = a.n := by
  unfold remA
  split
  · rename_i hp
    unfold hasP at hp
    exact (del_all h (i := i.toNat) (by omega)).1
  · rfl
end

/-- a text of m zeros -/
def zerosB (m : Nat) : ByteArray := ⟨(List.replicate m (0 : UInt8)).toArray⟩
theorem zeros_size (m : Nat) : (zerosB m).size = m := by
  show (List.replicate m (0 : UInt8)).length = m
  simp
theorem zeros_len (m : Nat) : (zerosB m).data.toList.length = m := zeros_size m
set_option maxRecDepth 100000 in
theorem zeros_conv (W : World) (m : Nat) : (convert 45 9 (.slice (some ⟨W.heap.size, 0, none⟩) m m)).run Try.prog (W.alloc (.cells (madeCells (Value.int .u8 0).cells m) 5)) = .ok (.string (zerosB m)) (W.alloc (.cells (madeCells (Value.int .u8 0).cells m) 5)) := by
  have h := run_convert_bytes_back (P := Try.prog) (W.alloc (.cells (madeCells (Value.int .u8 0).cells m) 5)) 45 9 5 ⟨W.heap.size, 0, none⟩ m (List.replicate m 0) Try.underlying45 Try.underlying5 Try.underlying9 (by
    intro j hj
    rw [List.length_replicate] at hj
    have e : (⟨W.heap.size, 0, none⟩ : Addr).add j = ⟨W.heap.size, j, none⟩ := by simp [Addr.add]; omega
    rw [e, World.cell?_alloc_mark]
    unfold madeCells
    simp [Value.cells, hj, Nat.mod_one])
  rw [List.length_replicate] at h
  exact h
set_option maxRecDepth 100000 in
theorem zeros_make (W : World) (m : Nat) (hm : m ≤ 1000000) : (Instr.makeSlice 45 (.int .i64 (m : Int)) (.int .i64 (m : Int))).run Try.prog W = .ok (.slice (some ⟨W.heap.size, 0, none⟩) m m) (W.alloc (.cells (madeCells (Value.int .u8 0).cells m) 5)) := by
  obtain ⟨i0, hi, hz0, hz1, hz2⟩ := info_parts Word.infoB
  have h := run_make (P := Try.prog) W 45 5 i0 (.int .u8 0) Try.underlying45 hi hz0 .i64 .i64 (m : Int) (m : Int) (by omega) (by omega) (by rw [hz2]; omega) (by omega)
  simpa [hz1] using h

end Go.Proofs.Ytmandeohbiagfaa.Slot

namespace Go.Proofs.Ytmandeohbiagfaa.Slot
open Go.RowKit
attribute [local go_sem ↓] Go.wp_at_zero Go.wp_at_succ

theorem putL_step {c : List UInt8} {k j : Nat} {t : List UInt8} (h : k + t.length ≤ c.length) (hj : j < t.length) : putL (putL c k (t.take j)) (k + j) [t[j]] = putL c k (t.take (j + 1)) := by
  have h1 : (t.take j).length = j := by rw [List.length_take]; omega
  have h2 : (t.take (j + 1)).length = j + 1 := by rw [List.length_take]; omega
  have l1 : (putL c k (t.take j)).length = c.length := putL_len (by omega)
  apply List.ext_getElem?
  intro i
  rw [putL_at (by rw [l1]; simp; omega), putL_at (by omega), putL_at (by omega)]
  simp only [List.length_singleton, h1, h2]
  by_cases c1 : k ≤ i ∧ i < k + j
  · rw [if_neg (by omega), if_pos c1, if_pos (by omega), List.getElem?_take, List.getElem?_take, if_pos (by omega), if_pos (by omega)]
  · by_cases c2 : i = k + j
    · subst c2
      rw [if_pos (by omega), if_pos (by omega), List.getElem?_take, if_pos (by omega)]
      simp [List.getElem?_eq_getElem hj]
    · rw [if_neg (by omega), if_neg c1, if_neg (by omega)]
theorem data_get (t : ByteArray) {j : Nat} (h : j < t.size) : t.data.toList[j]'(by show j < t.data.size; exact h) = t[j] := rfl

section
variable {w : World} {q : Nat} {a : A} {F : Nat → Prop}
set_option maxRecDepth 100000 in
theorem qnew_no (n : Int) (w : World) (h : sizedB n = false) : Calls Try.prog 26 #[.int .i64 n] w fun e w' => e = .returned (.pointer none) ∧ w = w' := by
  have h' : ¬ (16 ≤ n ∧ n ≤ 4096) := of_decide_eq_false h
  by_cases h1 : n < 16
  · have e1 : decide (n < 16) = true := decide_eq_true h1
    clear h h' h1
    go_enter Try.func26, Try.ntmps26
    go_wp2_with fail
    go_ret
    exact ⟨rfl, rfl⟩
  · have e1 : decide (n < 16) = false := decide_eq_false h1
    have e2 : decide (4096 < n) = true := decide_eq_true (by omega)
    clear h h' h1
    go_enter Try.func26, Try.ntmps26
    go_wp2_with fail
    go_ret
    exact ⟨rfl, rfl⟩
/-- the new area of the document's -/
def newR (w w' : World) (n : Nat) : Prop := Rf w' (w.heap.size + 1) (A.new n) (fun b => w.heap.size ≤ b ∧ b < w'.heap.size) ∧ Below w.heap.size w w'
set_option maxRecDepth 100000 in
set_option maxHeartbeats 1000000 in
theorem qnew_any (n : Nat) (w : World) (h1 : 16 ≤ n) (h2 : n ≤ 4096) : Calls Try.prog 26 #[.int .i64 (n : Int)] w fun e w' => e = .returned (.pointer (some ⟨w.heap.size + 1, 0, none⟩)) ∧ newR w w' n := by
  have hmk := fun W => zeros_make W n (by omega)
  obtain ⟨M, hM⟩ : ∃ M, M = madeCells (Value.int .u8 0).cells n := ⟨_, rfl⟩
  rw [← hM] at hmk
  obtain ⟨W1, hW1⟩ : ∃ W1, W1 = w.alloc (.cells M 5) := ⟨_, rfl⟩
  have hs1 : W1.heap.size = w.heap.size + 1 := by rw [hW1]; simp
  obtain ⟨W2, hW2⟩ : ∃ W2, W2 = W1.alloc (.cells #[.slice (some ⟨w.heap.size, 0, none⟩) n n, .int .i64 (n : Int), .slice none 0 0] 70) := ⟨_, rfl⟩
  have b2 : Below w.heap.size w W2 := by rw [hW2, hW1]; exact ((Below.refl _ _).alloc (Nat.le_refl _) _).alloc (by simp) _
  have hs2 : W2.heap.size = w.heap.size + 2 := by rw [hW2]; simp; omega
  have hA : newR w W2 n := by
    refine ⟨⟨⟨w.heap.size, n, .slice none 0 0, ⟨?_, ?_, ?_, ?_⟩, ?_, ?_, ?_⟩, fun b hb => hb.2⟩, b2⟩
    · rw [hW2, ← hs1]
      show _ = some (Obj.cells #[.slice _ (A.new n).n n, _, _] _ _)
      rw [show (A.new n).n = n by simp [A.new, A.n]]
      exact heap_alloc_new _ _
    · rw [hW2, hW1, hM]
      exact (row_made w n).far (Below.heap_alloc _ _ _ (by simp))
    · rw [show (A.new n).n = n by simp [A.new, A.n]]; exact Nat.le_refl _
    · exact World.ownsRow_nil _ _ _ _
    · exact ⟨by omega, by omega⟩
    · exact ⟨by omega, by omega⟩
    · simp [Value.ownBlock]
  have HE := Lib.hid hA
  have HW1 := Lib.hid hW1
  have HW2 := Lib.hid hW2
  have HS1 := Lib.hid hs1
  have e1 : decide ((n : Int) < 16) = false := decide_eq_false (by omega)
  have e2 : decide (4096 < (n : Int)) = false := decide_eq_false (by omega)
  have e3 : decide (n < 16) = false := decide_eq_false (by omega)
  have e4 : decide (4096 < n) = false := decide_eq_false (by omega)
  clear hM hW1 hW2 hA b2 hs1 hs2
  go_enter Try.func26, Try.ntmps26
  go_wp2_with (first | rw [← HW1.out] | rw [HS1.out] | rw [← HW2.out])
  go_ret
  exact ⟨rfl, HE.out⟩

set_option maxRecDepth 100000 in
set_option maxHeartbeats 4000000 in
theorem qbelow_any (H : Rf w q a F) (t : ByteArray) (ht : t.size ≤ a.low) (hl : a.low ≤ a.n) (hn : a.n ≤ 100000) : Calls Try.prog 50 #[.pointer (some ⟨q, 0, none⟩), .string t] w fun e w' => e = .returned (.agg #[.int .i64 ((a.low - t.size : Nat) : Int), .int .i64 (t.size : Int)]) ∧ (Rf w' q ⟨a.lay t.data.toList, a.low - t.size, a.dir⟩ F ∧ Touch F w w') := by
  have hlt := H.below
  have ba := (Below.refl w.heap.size w).alloc (Nat.le_refl _) (.cells #[.int .i64 0, .int .i64 0] 83)
  obtain ⟨W, hW⟩ : ∃ W, W = w.alloc (.cells #[.int .i64 0, .int .i64 0] 83) := ⟨_, rfl⟩
  have rn : W.heap[w.heap.size]? = some (.cells #[.int .i64 0, .int .i64 0] 83 (0, 0)) := by rw [hW]; exact heap_alloc_new _ _
  rw [← hW] at ba
  have H1 := H.later ba
  have hF : F q := by obtain ⟨_, _, _, _, f1, _⟩ := H.lay; exact f1
  obtain ⟨h, cB, v, L, f1, f2, f3⟩ := H1.lay
  have c1 := L.cell1
  have fz := L.free 1
  have hnb : ¬ F w.heap.size := fun hh => by have := hlt _ hh; omega
  obtain ⟨lo, hlo⟩ : ∃ lo, lo = a.low - t.size := ⟨_, rfl⟩
  have H2 := H1.setLow lo
  have l1 : (a.low : Int) ≤ 100000 := by omega
  have l0 : (0 : Int) ≤ (a.low : Int) := Int.natCast_nonneg _
  have t1 : (t.size : Int) ≤ (a.low : Int) := by omega
  have t0 : (0 : Int) ≤ (t.size : Int) := Int.natCast_nonneg _
  have el : (a.low : Int) - (t.size : Int) = (lo : Int) := by omega
  have lo0 : (0 : Int) ≤ (lo : Int) := Int.natCast_nonneg _
  obtain ⟨W2, hW2⟩ : ∃ W2, W2 = W.setCell ⟨q, 1, none⟩ (.int .i64 (lo : Int)) := ⟨_, rfl⟩
  rw [← hW2] at H2
  have hqn : q ≠ w.heap.size := fun e => hnb (e ▸ hF)
  have rn2 : W2.heap[w.heap.size]? = some (.cells #[.int .i64 0, .int .i64 0] 83 (0, 0)) := (H2.2.block _ (by have := (Array.getElem?_eq_some_iff.1 rn).1; exact this) hnb).trans rn
  have T2 := Lib.hid ((Touch.ofNew ba : Touch F w W).trans' H2.2)
  have c0 : W2.cell? ⟨q, 0, none⟩ = some (.slice (some ⟨h, 0, none⟩) a.n cB) := by
    rw [hW2, World.cell?_setCell_other _ _ _ _ (by simp)]; exact L.cell0
  have hlon : lo + t.size ≤ a.n := by omega
  have H2' := Lib.hid H2.1
  have hno : a.cells.length = a.n := rfl
  have HW := Lib.hid hW
  have HW2 := Lib.hid hW2
  have HLO := Lib.hid hlo
  have HNB := Lib.hid hnb
  have RN2 := Lib.hid rn2
  have HC0 := Lib.hid c0
  have HNN := Lib.hid hn
  rw [← hlo]
  clear rn rn2 H H1 L f1 f2 f3 H2 hW hW2 ba hlo hlt c0 hn hl ht hno hF
  go_enter Try.func50, Try.ntmps50
  go_wp2_with (first | rw [← HW.out] | rw [← HW2.out])
  clear HW HW2 c1 fz el
  go_loopw [5] (fun i wr => ∃ j : Nat, j ≤ t.size ∧ i = .int .i64 j ∧ Rf wr q ⟨putL a.cells lo (t.data.toList.take j), lo, a.dir⟩ F ∧ Touch F w wr ∧ wr.heap[w.heap.size]? = some (.cells #[.int .i64 0, .int .i64 0] 83 (0, 0)) ∧ wr.cell? ⟨q, 0, none⟩ = some (.slice (some ⟨h, 0, none⟩) a.n cB)) (fun i _ => t.size - (intOf i).toNat)
  case atStart => exact ⟨0, by omega, by go_num, by rw [List.take_zero, putL_nil]; exact H2'.out, T2.out, RN2.out, HC0.out⟩
  case round =>
    obtain ⟨j, hj, rfl, hR, hT, hr, hc0⟩ := hrel
    clear H2' T2 RN2 HC0
    have jn : (t.data.toList.take j).length = j := by rw [List.length_take]; show min j t.size = j; omega
    have nl : (putL a.cells lo (t.data.toList.take j)).length = a.n := putL_len (by rw [jn]; show lo + j ≤ a.n; omega)
    by_cases hlt : j < t.size
    · have c1 : wr.cell? ⟨q, 1, none⟩ = some (.int .i64 (lo : Int)) := by obtain ⟨_, _, _, L, _⟩ := hR.lay; exact L.cell1
      have bt := hR.drew'.byte (h := h) (cB := cB) (k := lo + j) (by show wr.cell? _ = some (Value.slice _ (putL a.cells lo (t.data.toList.take j)).length _); rw [nl]; exact hc0) (by show lo + j < (putL a.cells lo (t.data.toList.take j)).length; rw [nl]; omega) t[j]
      obtain ⟨y1, y2, y3, y4, y5⟩ := bt
      have ez := putL_step (c := a.cells) (k := lo) (t := t.data.toList) (by show lo + t.size ≤ a.n; exact hlon) (j := j) hlt
      rw [data_get t hlt] at ez
      have y3' : Rf (wr.drew.setCell ⟨h, lo + j, none⟩ (.int .u8 (t[j].toNat : Int))) q ⟨putL a.cells lo (t.data.toList.take (j + 1)), lo, a.dir⟩ F := by rw [← ez]; exact y3
      have y5' : (wr.drew.setCell ⟨h, lo + j, none⟩ (.int .u8 (t[j].toNat : Int))).cell? ⟨q, 0, none⟩ = some (.slice (some ⟨h, 0, none⟩) a.n cB) := by
        rw [y5]
        show some (Value.slice _ (putL a.cells lo (t.data.toList.take j)).length _) = _
        rw [nl]
      have rn3 := (y4.block _ (by have := (Array.getElem?_eq_some_iff.1 hr).1; exact this) HNB.out).trans hr
      have ci : wr.cell? ⟨h, lo + j, none⟩ = _ := y1
      have fi : wr.frozen? ⟨h, lo + j, none⟩ = false := y2
      have Y3 := Lib.hid y3'
      have Y4 := Lib.hid (hT.drew.trans' y4)
      have Y5 := Lib.hid y5'
      have RN3 := Lib.hid rn3
      have j0 : (0 : Int) ≤ (j : Int) := Int.natCast_nonneg _
      have jl : (lo : Int) + (j : Int) < (a.n : Int) := by omega
      have jl2 : (lo : Int) + (j : Int) ≤ 100000 := by have := HNN.out; omega
      clear y1 y2 y3 y4 y5 y3' y5' ez rn3 hR hT hr nl jn
      go_wp2_with fail
      (refine wp_region_still_tail 14 (by kernel_rfl) (by kernel_rfl) (still_of_quiet _ _ ?_); simp only [List.take_succ_cons, List.take_zero, List.drop_succ_cons, List.drop_zero]; (repeat (first | go_big_quiet_skip | (go_big_quiet_want; go_big_quiet_op; first | go_big_quiet_on | (apply Exists.intro; refine ⟨?_, ?_⟩; (first | fail); go_big_quiet_on)))); refine wpQuiet_nil ?_)
      go_wp2_with fail
      go_roundw
      case rel => exact ⟨j + 1, by omega, by go_num, Y3.out, Y4.out, RN3.out, Y5.out⟩
      case measure => simp [intOf]; omega
    · obtain rfl : j = t.size := by omega
      have c1 : wr.cell? ⟨q, 1, none⟩ = some (.int .i64 (lo : Int)) := by obtain ⟨_, _, _, L, _⟩ := hR.lay; exact L.cell1
      have z0 : wr.cell? ⟨w.heap.size, 0, none⟩ = some (.int .i64 0) := by rw [cell_of_row _ _ _ _ _ _ hr]; rfl
      have z1 : wr.cell? ⟨w.heap.size, 1, none⟩ = some (.int .i64 0) := by rw [cell_of_row _ _ _ _ _ _ hr]; rfl
      have f0 := frozen_of_row wr w.heap.size 0 _ _ hr
      have f1 := frozen_of_row wr w.heap.size 1 _ _ hr
      have hsz := (Array.getElem?_eq_some_iff.1 hr).1
      have et : t.data.toList.take t.size = t.data.toList := List.take_length
      rw [et] at hR
      have hR2 : Rf wr q ⟨a.lay t.data.toList, lo, a.dir⟩ F := by
        unfold A.lay
        rw [show t.data.toList.length = t.size from rfl, ← HLO.out]
        exact hR
      have hT2 : Touch F w ((wr.setCell ⟨w.heap.size, 0, none⟩ (.int .i64 (lo : Int))).setCell ⟨w.heap.size, 1, none⟩ (.int .i64 (t.size : Int))) := (hT.setNew (Nat.le_refl _) _).setNew (Nat.le_refl _) _
      have hR3 : Rf ((wr.setCell ⟨w.heap.size, 0, none⟩ (.int .i64 (lo : Int))).setCell ⟨w.heap.size, 1, none⟩ (.int .i64 (t.size : Int))) q ⟨a.lay t.data.toList, lo, a.dir⟩ F :=
        hR2.far (by simp) fun b hb => by
          have hne : w.heap.size ≠ b := fun e => HNB.out (e ▸ hb)
          rw [heap_setCell_other _ _ _ _ (by exact fun e => hne e.symm), heap_setCell_other _ _ _ _ (by exact fun e => hne e.symm)]
      have HR := Lib.hid hR3
      have HT := Lib.hid hT2
      clear hR hT hr hR2 hT2 hR3 et hc0 nl jn
      go_wp2_with fail
      refine bodyPost_ret (v := .agg #[.int .i64 (lo : Int), .int .i64 (t.size : Int)]) ?_ rfl ⟨rfl, HR.out, HT.out⟩
      simp [results, Try.results50, go_sem, z0, z1]
end

end Go.Proofs.Ytmandeohbiagfaa.Slot

namespace Go.Proofs.Ytmandeohbiagfaa.Slot
open Go.RowKit

def SrcD (w : World) (x : Value) (l : List (Nat × Nat)) : Prop :=
  (x = .slice none 0 0 ∧ l = []) ∨ ∃ a c, x = .slice (some a) l.length c ∧ (∀ j u, (dirC l)[j]? = some u → w.cell? (a.add j) = some u) ∧ a.block < w.heap.size
theorem SrcD.later {w w' : World} {x : Value} {l : List (Nat × Nat)} (h : SrcD w x l) (t : Below w.heap.size w w') : SrcD w' x l := by
  rcases h with h | ⟨a, c, rfl, h2, h4⟩
  · exact .inl h
  · refine .inr ⟨a, c, rfl, fun j u hj => ?_, Nat.lt_of_lt_of_le h4 t.size⟩
    have e : (a.add j).block = a.block := by unfold Addr.add; split <;> rfl
    have hb : w'.heap[(a.add j).block]? = w.heap[(a.add j).block]? := by rw [e]; exact t.block a.block h4
    exact (World.cell?_of_block hb).trans (h2 j u hj)
theorem Dl.later {w w' : World} {v : Value} {l : List (Nat × Nat)} (h : Dl w v l) (t : Below w.heap.size w w') : Dl w' v l := ownsRow_far h fun b hb => t.block b (h.lt b hb).2

set_option maxRecDepth 100000 in
theorem elem_pls : Try.prog.underlying 68 = some (.slice (Try.prog.elem 68)) := by kernel_rfl
set_option maxRecDepth 100000 in
theorem size_pl (w : World) : (sizeOf (Try.prog.elem 68)).run Try.prog w = .ok 2 w := by kernel_rfl
set_option maxRecDepth 100000 in
theorem Word.infoP : (Try.prog.info? 83).map (fun i => (i.zero, i.size, i.bytes)) = some (some (.agg #[.int .i64 0, .int .i64 0]), 2, 16) := by kernel_rfl

section
variable {w : World} {v : Value} {l : List (Nat × Nat)}
theorem Dl.head (h : Dl w v l) {k : Nat} (hk : k ≤ l.length) : ∃ x, (∀ W : World, (Instr.sliceAt 68 v none (some (.int .i64 (k : Int))) none).run Try.prog W = .ok x W) ∧ SrcD w x (l.take k) := by
  have hkl : (l.take k).length = k := by rw [List.length_take]; omega
  rcases h.form with ⟨rfl, rfl⟩ | ⟨g, cap, cur, rfl, h3, h4, h5⟩
  · have hk0 : k = 0 := by simpa using hk
    subst hk0
    refine ⟨.slice none 0 0, fun W => ?_, .inl ⟨rfl, rfl⟩⟩
    rw [run_sliceAt_slice (P := Try.prog) W 68 _ _ _ _ elem_pls, run_slice_h (P := Try.prog) W 68 _ _ _ elem_pls .i64 ((0 : Nat) : Int) (by omega) (by omega), size_pl]
    rfl
  · refine ⟨.slice (some ⟨g, 0, none⟩) k cap, fun W => ?_, .inr ⟨⟨g, 0, none⟩, cap, by rw [hkl], fun j u hj => ?_, (Array.getElem?_eq_some_iff.1 h3).1⟩⟩
    · rw [run_sliceAt_slice (P := Try.prog) W 68 _ _ _ _ elem_pls, run_slice_h (P := Try.prog) W 68 _ _ _ elem_pls .i64 (k : Int) (by omega) (by omega), size_pl]
      simp only [Result.andThen, sliced, Int.toNat_natCast]
      congr 2
      · split <;> simp [Addr.add]
    · have e : (⟨g, 0, none⟩ : Addr).add j = ⟨g, j, none⟩ := by simp [Addr.add]; omega
      rw [e, cell_of_row w g j cur _ _ h3]
      rw [← dirC_take l k hk, ← h5, List.take_take, List.getElem?_take] at hj
      split at hj
      · rw [← Array.getElem?_toList]; exact hj
      · cases hj
theorem Dl.tail (h : Dl w v l) {k : Nat} (hk : k ≤ l.length) : ∃ x, (∀ W : World, (Instr.sliceAt 68 v (some (.int .i64 (k : Int))) none none).run Try.prog W = .ok x W) ∧ SrcD w x (l.drop k) := by
  have hkl : (l.drop k).length = l.length - k := by rw [List.length_drop]
  rcases h.form with ⟨rfl, rfl⟩ | ⟨g, cap, cur, rfl, h3, h4, h5⟩
  · have hk0 : k = 0 := by simpa using hk
    subst hk0
    refine ⟨.slice none 0 0, fun W => ?_, .inl ⟨rfl, rfl⟩⟩
    rw [run_sliceAt_slice (P := Try.prog) W 68 _ _ _ _ elem_pls, run_slice_l (P := Try.prog) W 68 _ _ _ elem_pls .i64 ((0 : Nat) : Int) (by omega) (by simp), size_pl]
    rfl
  · obtain ⟨o, ho⟩ : ∃ o, (if cap = k then (some ⟨g, 0, none⟩ : Option Addr) else some ⟨g, k * 2, none⟩) = some ⟨g, o, none⟩ := by
      split
      · exact ⟨0, rfl⟩
      · exact ⟨k * 2, rfl⟩
    refine ⟨.slice (if cap = k then (some ⟨g, 0, none⟩ : Option Addr) else some ⟨g, k * 2, none⟩) (l.length - k) (cap - k), fun W => ?_, .inr ⟨⟨g, o, none⟩, cap - k, by rw [ho, hkl], fun j u hj => ?_, (Array.getElem?_eq_some_iff.1 h3).1⟩⟩
    · rw [run_sliceAt_slice (P := Try.prog) W 68 _ _ _ _ elem_pls, run_slice_l (P := Try.prog) W 68 _ _ _ elem_pls .i64 (k : Int) (by omega) (by omega), size_pl]
      simp only [Result.andThen, sliced, Int.toNat_natCast, Option.map_some]
      congr 2
      split <;> simp [Addr.add] <;> omega
    · have hjl : j < (l.length - k) * 2 := by
        have := (List.getElem?_eq_some_iff.1 hj).1
        rwa [dirC_len, hkl] at this
      rw [if_neg (by omega)] at ho
      have e2 : o = k * 2 := by simp at ho; exact ho.symm
      subst e2
      have e : (⟨g, k * 2, none⟩ : Addr).add j = ⟨g, k * 2 + j, none⟩ := by simp [Addr.add]
      rw [e, cell_of_row w g _ cur _ _ h3]
      rw [← dirC_drop l k hk, ← h5, List.getElem?_drop, List.getElem?_take, if_pos (by omega)] at hj
      rw [← Array.getElem?_toList]; exact hj

set_option maxRecDepth 100000 in
theorem run_appD {x : Value} {m : List (Nat × Nat)} (B : Nat) (ty : TypeId) (h : Dl w v l) (hs : SrcD w x m) (hn : l.length + m.length ≤ 1000000) (hB : ∀ b, v.ownBlock = some b → B ≤ b) (hBs : B ≤ w.heap.size) :
    ∃ v' w', (Builtin.append_ #[68, 68] ty #[v, x]).run Try.prog w = .ok v' w' ∧ Dl w' v' (l ++ m) ∧ w.grownBy w' v.ownBlock ∧ ∀ b, v'.ownBlock = some b → B ≤ b := by
  obtain ⟨i0, hi, hz0, hz1, hz2⟩ := info_parts Word.infoP
  rcases hs with ⟨rfl, rfl⟩ | ⟨a, c, rfl, h2, h3⟩
  · exact ⟨v, w, run_append_owned_none (P := Try.prog) (w := w) 0 68 ty 83 i0 2 Try.underlying68 hi v l.length _ h, by rw [List.append_nil]; exact h, ⟨rfl, rfl, rfl, Nat.le_refl _, fun _ _ _ => rfl⟩, hB⟩
  · obtain ⟨v', w', hr, h4, h5, _, h6⟩ := run_append_own_at (P := Try.prog) w 0 68 ty 83 i0 (.agg #[.int .i64 0, .int .i64 0]) 2 16 Try.underlying68 hi hz0 hz1 hz2 rfl (by decide) v l.length _ h a m.length c (dirC m) (dirC_len m) h2 (dirC_one m) (by unfold maxLen; omega) (by omega) (Nat.zero_le _)
    refine ⟨v', w', hr, ?_, h5, fun b hb => ?_⟩
    · unfold Dl
      rw [List.length_append, dirC_app]
      exact h4
    · rcases h6 with h6 | h6
      · exact hB b (by rw [← h6]; exact hb)
      · rw [h6] at hb
        simp at hb
        omega
section
variable {ops : Array Oper} {rest : List Oper} {o : Oper} {a : Act} {Q : Exit → Act → World → Prop} {K : Act → World → Prop} {E : Prop}
theorem wp_appD {x : Value} {m : List (Nat × Nat)} (B : Nat) (s d : Operand) (ho : o.op = .call { callee := .builtin .append, args := #[s, d], argTypes := #[68, 68] }) (h : Dl w v l) (hs : SrcD w x m) (hn : l.length + m.length ≤ 1000000) (hB : ∀ b, v.ownBlock = some b → B ≤ b) (hBs : B ≤ w.heap.size)
    (h1 : a.eval s = v) (h2 : a.eval d = x) {Q : Exit → Act → World → Prop} (hk : ∀ v' w', Dl w' v' (l ++ m) → w.grownBy w' v.ownBlock → (∀ b, v'.ownBlock = some b → B ≤ b) → K (a.put o.dst v') w') : o.wp Try.prog a w K Q := by
  obtain ⟨v', w', hr, k1, k2, k3⟩ := run_appD B (ty := o.type) h hs hn hB hBs
  unfold Oper.wp execOp
  simp only [ho, resolve, invoke, builtin, Sem.run_bind, Sem.run_pure, Result.andThen_ok, List.map_toArray, List.map_cons, List.map_nil, h1, h2, hr]
  exact hk v' w' k1 k2 k3
theorem wpList_appD {x : Value} {m : List (Nat × Nat)} (B : Nat) (hgd : o.guard = none) (s d : Operand) (ho : o.op = .call { callee := .builtin .append, args := #[s, d], argTypes := #[68, 68] }) (h : Dl w v l) (hs : SrcD w x m) (hn : l.length + m.length ≤ 1000000) (hB : ∀ b, v.ownBlock = some b → B ≤ b) (hBs : B ≤ w.heap.size)
    (h1 : a.eval s = v) (h2 : a.eval d = x) (hk : ∀ v' w', Dl w' v' (l ++ m) → w.grownBy w' v.ownBlock → (∀ b, v'.ownBlock = some b → B ≤ b) → wpList Try.prog ops Q rest (a.put o.dst v') w') : wpList Try.prog ops Q (o :: rest) a w :=
  wpList_plain hgd fun _ hK => wp_appD B s d ho h hs hn hB hBs h1 h2 fun v' w' k1 k2 k3 => hK _ _ (hk v' w' k1 k2 k3)
theorem step_appD {x : Value} {m : List (Nat × Nat)} (B : Nat) (hgd : o.guard = none) (s d : Operand) (ho : o.op = .call { callee := .builtin .append, args := #[s, d], argTypes := #[68, 68] }) (h : Dl w v l) (hs : SrcD w x m) (hn : l.length + m.length ≤ 1000000) (hB : ∀ b, v.ownBlock = some b → B ≤ b) (hBs : B ≤ w.heap.size)
    (h1 : a.eval s = v) (h2 : a.eval d = x) (hk : ∀ v' w', Dl w' v' (l ++ m) → w.grownBy w' v.ownBlock → (∀ b, v'.ownBlock = some b → B ≤ b) → K (a.put o.dst v') w') : if Region.wanted o (yielded ops a.tmps) = true then Oper.wp Try.prog o a w K Q else E := by
  have hw : Region.wanted o (yielded ops a.tmps) = true := by simp [Region.wanted, hgd]
  rw [if_pos hw]
  exact wp_appD B s d ho h hs hn hB hBs h1 h2 hk
end
/-- a new slice of places -/
theorem Dl.made {w : World} (l : List (Nat × Nat)) (hl : l.length ≤ 1000000) : Dl (w.alloc (.cells (dirC l).toArray 83)) (.slice (some ⟨w.heap.size, 0, none⟩) l.length l.length) l := by
  have := World.ownsRow_lit (base := 0) (e := 83) (size := 2) w (dirC l).toArray l.length (Nat.zero_le _) (by unfold maxLen; omega) (by simp [dirC_len])
  simpa [Dl] using this
theorem Dl.srcD (h : Dl w v l) : SrcD w v l := by
  rcases h.form with ⟨rfl, rfl⟩ | ⟨g, cap, cur, rfl, h3, h4, h5⟩
  · exact .inl ⟨rfl, rfl⟩
  · refine .inr ⟨⟨g, 0, none⟩, cap, rfl, fun j u hj => ?_, (Array.getElem?_eq_some_iff.1 h3).1⟩
    have e : (⟨g, 0, none⟩ : Addr).add j = ⟨g, j, none⟩ := by simp [Addr.add]; omega
    rw [e, cell_of_row w g j cur _ _ h3]
    rw [← h5, List.getElem?_take] at hj
    split at hj
    · rw [← Array.getElem?_toList]; exact hj
    · cases hj
end

end Go.Proofs.Ytmandeohbiagfaa.Slot
