/-
  Rows that are carried: plain mathematics, and the list that is made.
  Walks: rows, carried.
  Walks: what an op's kind has; part by part.
  Walks: all parts of an op, one behind the other.
  Walks: who wipes out what he is handed; what becomes of an op, whoever carries it.
  Walks: are two ops the same; which numbers, which texts may be.
-/
import Derived.Test.YtfcibccipkokoaaZ5
import Derived.Test.YtfcibccipkokoaaZ7
import Derived.Test.YtfcibccipkokoaaZ3
namespace Go.Proofs.Ytfcibccipkokoaa.Op
open Go.RowKit
open Go.Proofs.Ytfcibccipkokoaa.Seq (strS Is Own)
open Go.Proofs.Ytfcibccipkokoaa.By

/-- so many texts: those of l, then empty ones -/
def fitTo (n : Nat) (l : List ByteArray) : List ByteArray := l.take n ++ List.replicate (n - l.length) ⟨#[]⟩
theorem fitTo_len (n : Nat) (l : List ByteArray) : (fitTo n l).length = n := by
  unfold fitTo
  rw [List.length_append, List.length_take, List.length_replicate]
  omega
theorem fitTo_same (l : List ByteArray) : fitTo l.length l = l := by
  unfold fitTo
  rw [List.take_length, Nat.sub_self, List.replicate_zero, List.append_nil]
theorem fitTo_nil (n : Nat) : fitTo n [] = List.replicate n ⟨#[]⟩ := by
  unfold fitTo
  rw [List.take_nil, List.nil_append, List.length_nil, Nat.sub_zero]
theorem fitTo_each {n : Nat} {l : List ByteArray} (h : ∀ r ∈ l, r.size ≤ 65535) : ∀ r ∈ fitTo n l, r.size ≤ 65535 := by
  intro r hr
  unfold fitTo at hr
  rcases List.mem_append.1 hr with hr | hr
  · exact h r (List.mem_of_mem_take hr)
  · rw [(List.mem_replicate.1 hr).2]; exact Nat.zero_le _
/-- how many bytes such a list has -/
def cost (l : List ByteArray) : Nat := 2 * l.length + total l
theorem cost_cons (t : ByteArray) (l : List ByteArray) : cost (t :: l) = 2 + t.size + cost l := by unfold cost; rw [total_cons, List.length_cons]; omega
section
variable {σ : Type} (C : Car σ)
/-- texts, carried one by one -/
def txts : List ByteArray → σ → List ByteArray × σ
  | [], s => ([], s)
  | t :: l, s => ((C.txt s t).1 :: (txts l (C.txt s t).2).1, (txts l (C.txt s t).2).2)
theorem txts_len : ∀ (l : List ByteArray) (s : σ), (txts C l s).1.length = l.length := by
  intro l
  induction l with
  | nil => intro s; rfl
  | cons t l ih => intro s; rw [txts, List.length_cons, List.length_cons, ih]
def rowsC (s : σ) (l : List ByteArray) : List ByteArray × σ := txts C (fitTo (C.num s l.length 2).1 l) (C.num s l.length 2).2
end
/-- while they are carried: i of them have been -/
structure Rg {σ : Type} (C : Car σ) (L : List ByteArray) (s1 : σ) (n i : Nat) (xs : List ByteArray) (s : σ) : Prop where
  len : xs.length = n
  le : i ≤ n
  is : txts C L s1 = (xs.take i ++ (txts C (xs.drop i) s).1, (txts C (xs.drop i) s).2)
  room : C.room s (cost (xs.drop i))
  each : ∀ r ∈ xs, r.size ≤ 65535
theorem Rg.start {σ : Type} {C : Car σ} {L : List ByteArray} {s1 : σ} (h : C.room s1 (cost L)) (he : ∀ r ∈ L, r.size ≤ 65535) : Rg C L s1 L.length 0 L s1 := ⟨rfl, Nat.zero_le _, by simp, by simpa using h, he⟩
theorem Rg.at {σ : Type} {C : Car σ} {L : List ByteArray} {s1 : σ} {n i : Nat} {xs : List ByteArray} {s : σ} (h : Rg C L s1 n i xs s) (hi : i < n) : ∃ t, xs[i]? = some t ∧ t.size ≤ 65535 ∧ xs.drop i = t :: xs.drop (i + 1) := by
  have hl := h.len
  have hi2 : i < xs.length := by omega
  refine ⟨xs[i], List.getElem?_eq_getElem hi2, h.each _ (List.getElem_mem hi2), ?_⟩
  rw [List.drop_eq_getElem_cons hi2]
theorem Rg.step {σ : Type} {C : Car σ} (H : C.Ok) {L : List ByteArray} {s1 : σ} {n i : Nat} {xs : List ByteArray} {s : σ} (h : Rg C L s1 n i xs s) (hi : i < n) {t : ByteArray} (ht : xs[i]? = some t) : Rg C L s1 n (i + 1) (xs.set i (C.txt s t).1) (C.txt s t).2 := by
  have hl := h.len
  have hi2 : i < xs.length := by omega
  obtain ⟨t', e1, e2, e3⟩ := h.at hi
  rw [ht] at e1
  obtain rfl := Option.some.inj e1
  have d : (xs.set i (C.txt s t).1).drop (i + 1) = xs.drop (i + 1) := List.drop_set_of_lt (by omega)
  have tk : (xs.set i (C.txt s t).1).take (i + 1) = xs.take i ++ [(C.txt s t).1] := by
    rw [List.take_succ_eq_append_getElem (by rw [List.length_set]; exact hi2), List.take_set_of_le (by omega)]
    simp
  refine ⟨by rw [List.length_set]; exact hl, by omega, ?_, ?_, ?_⟩
  · rw [h.is, e3, txts, d, tk]
    simp
  · rw [d]
    have := h.room
    rw [e3, cost_cons] at this
    exact H.rt _ _ _ this
  · intro r hr
    rcases List.mem_or_eq_of_mem_set hr with hr | rfl
    · exact h.each r hr
    · exact H.tl _ _ e2
theorem Rg.done {σ : Type} {C : Car σ} {L : List ByteArray} {s1 : σ} {n i : Nat} {xs : List ByteArray} {s : σ} (h : Rg C L s1 n i xs s) (hi : ¬ i < n) : txts C L s1 = (xs, s) := by
  have hl := h.len
  rw [h.is, List.drop_of_length_le (by omega), List.take_of_length_le (by omega)]
  simp [txts]

/-! ### the list that is made -/
def strC (xs : List ByteArray) : Array Value := (xs.map Value.string).toArray
theorem strC_made (n : Nat) : madeCells (Value.string ⟨#[]⟩).cells n = strC (List.replicate n ⟨#[]⟩) := by
  apply Array.ext'
  unfold madeCells strC
  rw [Array.toList_map, Array.toList_range, List.map_replicate]
  apply List.ext_getElem?
  intro j
  rw [List.getElem?_map]
  by_cases hj : j < n
  · rw [List.getElem?_range hj]
    simp [hj, Value.cells, Nat.mod_one]
  · simp [hj]
set_option maxRecDepth 100000 in
theorem strs_make (W : World) (n : Nat) (hn : n ≤ 65535) : (Instr.makeSlice 34 (.int .u64 (n : Int)) (.int .u64 (n : Int))).run Try.prog W = .ok (.slice (some ⟨W.heap.size, 0, none⟩) n n) (W.alloc (.cells (strC (List.replicate n ⟨#[]⟩)) 9)) := by
  obtain ⟨i0, hi, hz0, hz1, hz2⟩ := info_parts strS.info
  have hz0' : i0.zero = some (Value.string ⟨#[]⟩) := hz0
  have hz1' : i0.size = 1 := hz1
  have hz2' : i0.bytes = 16 := hz2
  have h := run_make (P := Try.prog) W 34 9 i0 (.string ⟨#[]⟩) Try.underlying34 hi hz0' .u64 .u64 (n : Int) (n : Int) (by omega) (by omega) (by rw [hz2']; omega) (by omega)
  rw [hz1', Int.toNat_natCast, Nat.mul_one, strC_made] at h
  exact h
theorem strC_size (xs : List ByteArray) : (strC xs).size = xs.length := by simp [strC]
theorem strC_get {xs : List ByteArray} {i : Nat} {t : ByteArray} (h : xs[i]? = some t) : (strC xs)[i]? = some (.string t) := by simp [strC, h]
theorem strC_set (xs : List ByteArray) (i : Nat) (t : ByteArray) : (strC xs).setIfInBounds i (.string t) = strC (xs.set i t) := by
  unfold strC
  rw [List.setIfInBounds_toArray, List.map_set]
theorem all_str (xs : List ByteArray) : Seq.all strS xs = xs.map Value.string := by
  induction xs with
  | nil => rfl
  | cons x xs ih => rw [Seq.all_cons, ih]; rfl
/-- a list in a block of texts -/
theorem rk_made {B : Nat} {w : World} {r : Nat} {xs : List ByteArray} (h : w.heap[r]? = some (.cells (strC xs) 9 (0, 0))) : Rk B w (.slice (some ⟨r, 0, none⟩) xs.length xs.length) xs := by
  refine ⟨⟨_, _, rfl, Nat.le_refl _, (fun e => by cases e), .inr ⟨r, 0, rfl, (Array.getElem?_eq_some_iff.1 h).1, fun j u hu => ?_⟩⟩, fun a n c e => ?_⟩
  · rw [all_str] at hu
    rw [Nat.zero_add, cell_of_row _ _ _ _ _ _ h]
    unfold strC
    rw [List.getElem?_toArray, hu]
  · simp only [Value.slice.injEq, Option.some.injEq] at e
    obtain ⟨rfl, _, _⟩ := e
    exact .inr (.inr ⟨_, _, h⟩)

end Go.Proofs.Ytfcibccipkokoaa.Op

namespace Go.Proofs.Ytfcibccipkokoaa.Op
open Go.RowKit
open Go.Proofs.Ytfcibccipkokoaa.Seq (strS Is Own)
open Go.Proofs.Ytfcibccipkokoaa.By
attribute [local go_sem ↓] Go.wp_at_zero Go.wp_at_succ

/-- what lies where while rows are carried -/
structure Rw {σ : Type} (C : Car σ) (w wr : World) (g r : Nat) (o : O) (u : Value) (xs : List ByteArray) (s : σ) : Prop where
  inv : C.inv wr s
  box : wr.heap[g]? = some (.cells (oC o u) 72 (0, 0))
  ge : C.B ≤ g
  fit : Fit o
  row : wr.heap[r]? = some (.cells (strC xs) 9 (0, 0))
  only : Only C.B tall w wr
  new : w.heap.size ≤ r
  gl : g < w.heap.size
section
variable {σ : Type} {C : Car σ} {w wr w' : World} {g r : Nat} {o : O} {u : Value} {xs : List ByteArray} {s s' : σ}
theorem Rw.car (h : Rw C w wr g r o u xs s) (i : C.inv w' s') (k : Only C.B tcar wr w') : Rw C w w' g r o u xs s' :=
  ⟨i, k.keep h.box (by decide), h.ge, h.fit, k.keep h.row (by decide), h.only.trans (k.mono tall_car), h.new, h.gl⟩
theorem Rw.drew (H : C.Ok) (h : Rw C w wr g r o u xs s) : Rw C w wr.drew g r o u xs s :=
  ⟨H.keep _ _ _ h.inv (Only.refl _ _ _).drew, h.box, h.ge, h.fit, h.row, h.only.drew, h.new, h.gl⟩
theorem Rw.hB (h : Rw C w wr g r o u xs s) : C.B ≤ r := by have := h.ge; have := h.gl; have := h.new; omega
theorem Rw.ne (h : Rw C w wr g r o u xs s) : g ≠ r := by have := h.gl; have := h.new; omega
theorem Rw.set (H : C.Ok) (h : Rw C w wr g r o u xs s) (i : Nat) (t : ByteArray) : Rw C w (wr.setCell ⟨r, i, none⟩ (.string t)) g r o u (xs.set i t) s :=
  ⟨H.keep _ _ _ h.inv (Only.set h.row h.hB rfl _ _), by rw [heap_setCell_other _ _ _ _ h.ne]; exact h.box, h.ge, h.fit, by rw [heap_setCell_same _ _ _ _ _ _ h.row, strC_set], h.only.setNew h.new _ _, h.new, h.gl⟩
theorem Rw.cell (h : Rw C w wr g r o u xs s) {i : Nat} {t : ByteArray} (ht : xs[i]? = some t) : wr.cell? ⟨r, i, none⟩ = some (.string t) := by
  rw [cell_of_row _ _ _ _ _ _ h.row]; exact strC_get ht
theorem Rw.free (h : Rw C w wr g r o u xs s) (i : Nat) : wr.frozen? ⟨r, i, none⟩ = false := frozen_of_row _ _ _ _ _ h.row
theorem Rw.five (h : Rw C w wr g r o u xs s) : wr.cell? ⟨g, 5, none⟩ = some u ∧ wr.frozen? ⟨g, 5, none⟩ = false :=
  ⟨by rw [cell_of_row _ _ _ _ _ _ h.box]; rfl, frozen_of_row _ _ _ _ _ h.box⟩
/-- the list becomes the op's -/
theorem Rw.fin (H : C.Ok) {n : Nat} (hn : xs.length = n) (h : Rw C w wr g r o u xs s) (hx : ∀ t ∈ xs, t.size ≤ 65535) (hl : n ≤ 65535) :
    C.inv (wr.setCell ⟨g, 5, none⟩ (.slice (some ⟨r, 0, none⟩) n n)) s ∧ Pb C.B (wr.setCell ⟨g, 5, none⟩ (.slice (some ⟨r, 0, none⟩) n n)) g { o with rows := xs } (.slice (some ⟨r, 0, none⟩) n n) ∧ Only C.B tall w (wr.setCell ⟨g, 5, none⟩ (.slice (some ⟨r, 0, none⟩) n n)) := by
  subst hn
  have k : Only C.B tone wr (wr.setCell ⟨g, 5, none⟩ (.slice (some ⟨r, 0, none⟩) xs.length xs.length)) := Only.set h.box h.ge rfl _ _
  have f := h.fit
  exact ⟨H.keep _ _ _ h.inv (k.mono tone_par), ⟨by rw [heap_setCell_same _ _ _ _ _ _ h.box]; rfl, h.ge, ⟨⟨f.wf.kind, f.wf.page, f.wf.pkind, f.wf.level, f.wf.next⟩, f.a, f.f, f.text, hl, hx⟩, rk_made (by rw [heap_setCell_other _ _ _ _ (Ne.symm h.ne)]; exact h.row)⟩, h.only.trans (k.mono tone_all)⟩
end
/-- as it begins: the list is made, and what was there is copied -/
theorem Rw.start {σ : Type} {C : Car σ} (H : C.Ok) {w w4 w6 : World} {g : Nat} {o : O} {u : Value} {n : Nat} {s : σ} (hg : g < w.heap.size) (X : Pb C.B w4 g o u) (I : C.inv w4 s) (U : Only C.B tall w w4) {cs : Array Value} (h6 : w6.heap[w4.heap.size]? = some (.cells cs 9 (0, 0))) (b : Below w4.heap.size w4 w6) (e : cs = strC (fitTo n o.rows)) :
    Rw C w w6 g w4.heap.size o u (fitTo n o.rows) s := by
  subst e
  exact ⟨H.keep _ _ _ I (Only.ofNew b), (b.block _ (Array.getElem?_eq_some_iff.1 X.box).1).trans X.box, X.ge, X.fit, h6, U.trans (Only.ofNew b), U.size, hg⟩
theorem splice_fit (n : Nat) (l : List ByteArray) : splice ((List.replicate n (⟨#[]⟩ : ByteArray)).map Value.string) 0 ((l.take n).map Value.string) = (fitTo n l).map Value.string := by
  unfold splice fitTo
  rw [List.take_zero, List.nil_append, Nat.zero_add, List.length_map, List.length_take, List.map_append, List.map_replicate, List.drop_replicate, List.map_replicate]
  congr 2
  omega

theorem copy_src {W : World} {aa : Option Addr} {m cc : Nat} {l : List ByteArray} (h : Is strS W (.slice aa m cc) l) (n : Nat) {r : Nat} :
    0 < ((l.take n).map Value.string).length → (some (⟨r, 0, none⟩ : Addr)) = some ⟨r, 0, none⟩ ∧ ∃ ad, aa = some ad ∧ ∀ j v, ((l.take n).map Value.string)[j]? = some v → W.cell? (ad.add j) = some v := by
  intro h0
  refine ⟨rfl, ?_⟩
  obtain ⟨a, cap, hv, h1, h2, hc⟩ := h
  simp only [Value.slice.injEq] at hv
  obtain ⟨rfl, rfl, rfl⟩ := hv
  rcases hc with rfl | ⟨x, o, rfl, hx, hj⟩
  · simp at h0
  · refine ⟨_, rfl, fun j v hv => ?_⟩
    rw [Addr.add_mid]
    refine hj j v ?_
    rw [all_str]
    rw [List.getElem?_map, List.getElem?_take] at hv
    split at hv
    · rw [List.getElem?_map]; exact hv
    · simp at hv
theorem str_one' (l : List ByteArray) : ∀ u ∈ l.map Value.string, u.oneCell' = true := by
  intro u hu
  obtain ⟨s, _, rfl⟩ := List.mem_map.1 hu
  rfl
theorem info_str : (Try.prog.info? 9).map (·.size) = some 1 := by kernel_rfl

set_option maxRecDepth 100000 in
set_option maxHeartbeats 2000000 in
theorem rows_any {σ : Type} {C : Car σ} (H : C.Ok) {w : World} {g : Nat} {o : O} {u : Value} {s : σ} (I : C.inv w s) (X : Pb C.B w g o u) (hr : C.room s 2) (hr2 : C.room (C.num s o.rows.length 2).2 (cost (fitTo (C.num s o.rows.length 2).1 o.rows))) :
    Calls Try.prog 119 #[.pointer (some ⟨g, 0, none⟩), C.v] w fun e w' => e = .returned (.tuple #[]) ∧ C.inv w' (rowsC C s o.rows).2 ∧ (∃ u', Pb C.B w' g { o with rows := (rowsC C s o.rows).1 } u') ∧ Only C.B tall w w' := by
  obtain ⟨m, hm⟩ : ∃ m : Nat, m = o.rows.length := ⟨_, rfl⟩
  have b0 : m < 65536 := by rw [hm]; have := X.fit.len; omega
  have KN := Lib.hid (fun (W : World) (J : C.inv W s) => H.cn W s m 2 J hr (by decide) (by omega))
  have KT := Lib.hid (fun (W : World) (s' : σ) (t : ByteArray) (J : C.inv W s') (h1 : C.room s' (2 + t.size)) (h2 : t.size ≤ 65535) => H.ct W s' t J h1 h2)
  have b1 : (C.num s m 2).1 < 65536 := H.lt s m 2 (by omega)
  obtain ⟨aa, cc, hu⟩ := X.rows.is.shape
  rw [← hm] at hu
  subst hu
  have CC := Lib.hid (fun (W : World) (Y : Pb C.B W g o (.slice aa m cc)) => Y.nine.2.2.2.2.2.1)
  have RC := Lib.hid (show rowsC C s o.rows = txts C (fitTo (C.num s o.rows.length 2).1 o.rows) (C.num s o.rows.length 2).2 from rfl)
  generalize rowsC C s o.rows = R at *
  rw [← hm] at RC hr2
  have G := Lib.hid (Array.getElem?_eq_some_iff.1 X.box).1
  generalize hy : C.num s m 2 = y at *
  obtain ⟨n, s1⟩ := y
  simp only at b1 hr2 RC
  have R0 := Lib.hid (show Rg C (fitTo n o.rows) s1 n 0 (fitTo n o.rows) s1 by
    have := Rg.start (C := C) (L := fitTo n o.rows) (s1 := s1) hr2 (fitTo_each X.fit.each)
    rwa [fitTo_len] at this)
  have w0 : IntKind.u64.wrap (m : Int) = (m : Int) := by rw [IntKind.wrap_u64]; omega
  obtain ⟨fn, f1, f2, f3⟩ := H.en
  have F1 := Lib.hid f1; have F2 := Lib.hid f2; have F3 := Lib.hid f3; clear f1 f2 f3
  obtain ⟨fn', f1, f2, f3⟩ := H.et
  have E1 := Lib.hid f1; have E2 := Lib.hid f2; have E3 := Lib.hid f3; clear f1 f2 f3
  have XX := Lib.hid X; have II := Lib.hid I; have HH := Lib.hid H; have HM := Lib.hid hm
  have c0 := CC.out w X
  clear hr hr2 I X H hy hm
  go_enter Try.func119, Try.ntmps119
  go_upto_region 0 with fail
  refine wp_region_noPanic ?_
  refine wp_region_held_drew (S := fun W => W.cell? ⟨g, 5, none⟩ = some (.slice aa m cc)) (by kernel_rfl) (by exact c0) (fun hHeld => ?_)
  refine wpAnyH_take (i := 0) (v := ?_) rfl (by kernel_rfl) (by kernel_rfl) (by kernel_rfl) (fun _ _ _ h => h) (Or.inl ⟨by rfl, ?_⟩) hHeld ?_
  rotate_left
  · (intro W hSw; (try dsimp only at hSw); go_simp; (try with_reducible rfl))
  simp only [List.getElem_toArray, List.getElem_cons_zero, Act.put, List.setIfInBounds_toArray, List.set_cons_zero, List.set_cons_succ]
  refine wpAnyH_take (i := 1) (v := ?_) rfl (by kernel_rfl) (by kernel_rfl) (by kernel_rfl) (fun _ _ _ h => h) (Or.inl ⟨by rfl, ?_⟩) hHeld ?_
  rotate_left
  · (intro W hSw; (try dsimp only at hSw); go_simp; (try with_reducible rfl))
  simp only [List.getElem_toArray, List.getElem_cons_succ, List.getElem_cons_zero, Act.put, List.setIfInBounds_toArray, List.set_cons_zero, List.set_cons_succ]
  refine wpAnyH_take (i := 2) (v := ?_) rfl (by kernel_rfl) (by kernel_rfl) (by kernel_rfl) (fun _ _ _ h => h) (Or.inl ⟨by rfl, ?_⟩) hHeld ?_
  rotate_left
  · (intro W hSw; (try dsimp only at hSw); go_simp; (try with_reducible rfl))
  simp only [List.getElem_toArray, List.getElem_cons_succ, List.getElem_cons_zero, Act.put, List.setIfInBounds_toArray, List.set_cons_zero, List.set_cons_succ]
  refine wpAnyH_take (i := 3) (v := ?_) rfl (by kernel_rfl) (by kernel_rfl) (by kernel_rfl) (fun _ _ _ h => h) (Or.inl ⟨by rfl, ?_⟩) hHeld ?_
  rotate_left
  · (intro W hSw; (try dsimp only at hSw); go_simp; (try with_reducible rfl))
  simp only [List.getElem_toArray, List.getElem_cons_succ, List.getElem_cons_zero, Act.put, List.setIfInBounds_toArray, List.set_cons_zero, List.set_cons_succ]
  refine wpAnyH_take (i := 4) (v := ?_) rfl (by kernel_rfl) (by kernel_rfl) (by kernel_rfl) (fun _ _ _ h => h) (Or.inl ⟨by rfl, ?_⟩) hHeld ?_
  rotate_left
  · (intro W hSw; (try dsimp only at hSw); go_simp; (try with_reducible rfl))
  simp only [List.getElem_toArray, List.getElem_cons_succ, List.getElem_cons_zero, Act.put, List.setIfInBounds_toArray, List.set_cons_zero, List.set_cons_succ]
  refine wpAnyH_take (i := 5) (v := ?_) rfl (by kernel_rfl) (by kernel_rfl) (by kernel_rfl) (fun _ _ _ h => h) (Or.inl ⟨by rfl, ?_⟩) hHeld ?_
  rotate_left
  · (intro W hSw; (try dsimp only at hSw); go_simp; (try with_reducible rfl))
  simp only [List.getElem_toArray, List.getElem_cons_succ, List.getElem_cons_zero, Act.put, List.setIfInBounds_toArray, List.set_cons_zero, List.set_cons_succ]
  refine wpAnyH_take (i := 6) (v := ?_) rfl (by kernel_rfl) (by kernel_rfl) (by kernel_rfl) (fun _ _ _ h => h) (Or.inl ⟨by rfl, ?_⟩) hHeld ?_
  rotate_left
  · (intro W hSw; (try dsimp only at hSw); go_simp; (try with_reducible rfl))
  simp only [List.getElem_toArray, List.getElem_cons_succ, List.getElem_cons_zero, Act.put, List.setIfInBounds_toArray, List.set_cons_zero, List.set_cons_succ]
  refine wpAnyH_take (i := 7) (v := ?_) rfl (by kernel_rfl) (by kernel_rfl) (by kernel_rfl) (fun _ _ _ h => h) (Or.inl ⟨by rfl, ?_⟩) hHeld ?_
  rotate_left
  · (intro W hSw; (try dsimp only at hSw); go_simp; (try with_reducible rfl))
  simp only [List.getElem_toArray, List.getElem_cons_succ, List.getElem_cons_zero, Act.put, List.setIfInBounds_toArray, List.set_cons_zero, List.set_cons_succ]
  refine wpAnyH_take (i := 8) (v := _) rfl (by kernel_rfl) (by kernel_rfl) (by kernel_rfl) (fun _ _ _ h => h) (Or.inl ⟨by rfl, fun W _ => run_nil rfl rfl (HH.out.nn W)⟩) hHeld ?_
  simp only [List.getElem_toArray, List.getElem_cons_succ, List.getElem_cons_zero, Act.put, List.setIfInBounds_toArray, List.set_cons_zero, List.set_cons_succ]
  refine wpAnyH_take (i := 9) (v := ?_) rfl (by kernel_rfl) (by kernel_rfl) (by kernel_rfl) (fun _ _ _ h => h) (Or.inl ⟨by rfl, ?_⟩) hHeld ?_
  rotate_left
  · (intro W hSw; (try dsimp only at hSw); go_simp; (try with_reducible rfl))
  simp only [List.getElem_toArray, List.getElem_cons_succ, List.getElem_cons_zero, Act.put, List.setIfInBounds_toArray, List.set_cons_zero, List.set_cons_succ]
  refine wpAnyH_ready (rs := [10]) (by kernel_rfl) (by simp) (AllReadyH.cons rfl (fun K hK => ?_) AllReadyH.nil)
  refine step_inv (by rfl) (.tmp 15) "pentimento/op.number" [.tmp 12, .const (.int .i64 2)] #[38, 3] rfl C.t C.x (by rfl) C.fn (HH.out.mn _) fn F1.out F2.out F3.out (KN.out _ (HH.out.keep _ _ _ II.out (Only.refl _ _ _).drew)) (by rfl) ?_
  rintro e w4 ⟨rfl, i4, u4⟩
  refine ⟨_, rfl, ?_⟩
  have X4 := Lib.hid ((XX.out.later (Below.refl _ _).drew).car u4)
  have I4 := Lib.hid i4
  have U4 := Lib.hid ((Only.mono ((Only.refl _ _ _).drew.trans u4) tall_car : Only C.B tall w w4))
  have c4 := CC.out w4 X4.out; clear c0
  refine hK.out _ _ c4 (fun hHeld => ?_)
  clear hK K i4 u4
  simp only [List.getElem_toArray, List.getElem_cons_succ, List.getElem_cons_zero, Act.put, List.setIfInBounds_toArray, List.set_cons_zero, List.set_cons_succ]
  refine wpAnyH_ready (rs := [11]) (by kernel_rfl) (by simp) (AllReadyH.cons rfl (fun K hK => ?_) AllReadyH.nil)
  rw [if_pos (by rfl)]
  unfold Oper.wp execOp
  have MK := strs_make w4 n (by omega)
  go_simp
  have n5 := below_new w4 (.cells (strC (List.replicate n ⟨#[]⟩)) 9)
  have X5 := Lib.hid (X4.out.later n5)
  have c5 := CC.out _ X5.out; clear c4
  refine hK.out _ _ c5 (fun hHeld => ?_)
  clear hK K MK
  try simp only [List.getElem_toArray, List.getElem_cons_succ, List.getElem_cons_zero, Act.put, List.setIfInBounds_toArray, List.set_cons_zero, List.set_cons_succ]
  refine wpAnyH_take (i := 12) (v := ?_) rfl (by kernel_rfl) (by kernel_rfl) (by kernel_rfl) (fun _ _ _ h => h) (Or.inl ⟨by rfl, ?_⟩) hHeld ?_
  rotate_left
  · (intro W hSw; (try dsimp only at hSw); go_simp; (try with_reducible rfl))
  simp only [List.getElem_toArray, List.getElem_cons_succ, List.getElem_cons_zero, Act.put, List.setIfInBounds_toArray, List.set_cons_zero, List.set_cons_succ]
  refine wpAnyH_done (by kernel_rfl) ?_ _
  refine NoPanic.normal ?_
  clear hHeld
  have H5 := Lib.hid (heap_alloc_new w4 (.cells (strC (List.replicate n ⟨#[]⟩)) 9))
  have N5 := Lib.hid n5
  have SRC := Lib.hid (copy_src X5.out.rows.is n (r := w4.heap.size))
  have LEN := Lib.hid (show ((o.rows.take n).map Value.string).length = Nat.min m n by rw [List.length_map, List.length_take, HM.out]; exact Nat.min_comm _ _)
  have FIT := Lib.hid (show 0 + ((o.rows.take n).map Value.string).length ≤ ((List.replicate n (⟨#[]⟩ : ByteArray)).map Value.string).length by rw [LEN.out, List.length_map, List.length_replicate, Nat.zero_add]; exact Nat.min_le_right _ _)
  clear n5
  generalize w4.alloc _ = w5 at *
  go_wp2_with (refine wpList_copy_splice rfl (.tmp 18) (.tmp 22) 34 34 rfl 9 Try.underlying34 info_str _ _ _ _ _ _ rfl rfl w4.heap.size 0 _ 9 H5.out _ LEN.out SRC.out FIT.out (str_one' _) w4.heap.size w4 (N5.out.trans (Below.refl _ _)) (Nat.le_refl _) ?_; intro w6 h6 b6)
  have W6 := Lib.hid (Rw.start HH.out G.out X4.out I4.out U4.out h6.out b6 (by rw [splice_fit]; rfl))
  clear h6 b6 X5 c5 H5 N5 SRC LEN FIT X4 I4 U4 XX II KN F1 F2 F3 CC
  generalize w4.heap.size = r at *
  obtain ⟨wz, hwz⟩ : ∃ wz, wz = w6 := ⟨_, rfl⟩
  rw [← hwz] at W6 ⊢
  clear hwz
  go_loopw [26] (fun i wr => ∃ (k : Nat) (xs : List ByteArray) (s' : σ), i = .int .i64 (k : Int) ∧ Rg C (fitTo n o.rows) s1 n k xs s' ∧ Rw C w wr g r o (.slice aa m cc) xs s') (fun i _ => n - (intOf i).toNat)
  case atStart => exact ⟨0, _, s1, rfl, R0.out, W6.out⟩
  case round =>
    obtain ⟨k, xs, s', rfl, hg, hw⟩ := hrel
    clear W6 R0
    by_cases hlt : k < n
    · obtain ⟨t, ht, hts, hd⟩ := hg.at hlt
      have RM := Lib.hid (show C.room s' (2 + t.size) by have := hg.room; rw [hd, cost_cons] at this; exact HH.out.rl _ _ _ (by omega) this)
      have GS := Lib.hid (hg.step HH.out hlt ht)
      have HT := Lib.hid ht
      have TS := Lib.hid hts
      have HW := Lib.hid hw
      have i1 : (0 : Int) ≤ (k : Int) := by omega
      have i2 : (k : Int) < (n : Int) := by omega
      clear hd ht hts hg hw
      go_upto_region 5 with fail
      have c0 := HW.out.cell HT.out
      refine wp_region_noPanic ?_
      refine wp_region_held_drew (S := fun _ => True) (by kernel_rfl) trivial (fun hHeld => ?_)
      refine wpAnyH_take (i := 0) (v := ?_) rfl (by kernel_rfl) (by kernel_rfl) (by kernel_rfl) (fun _ _ _ h => h) (Or.inl ⟨by rfl, ?_⟩) hHeld ?_
      rotate_left
      · (intro W hSw; (try dsimp only at hSw); go_simp; (try with_reducible rfl))
      simp only [List.getElem_toArray, List.getElem_cons_zero, Act.put, List.setIfInBounds_toArray, List.set_cons_zero, List.set_cons_succ]
      refine wpAnyH_take (i := 1) (v := ?_) rfl (by kernel_rfl) (by kernel_rfl) (by kernel_rfl) (fun _ _ _ h => h) (Or.inl ⟨by rfl, ?_⟩) hHeld ?_
      rotate_left
      · (intro W hSw; (try dsimp only at hSw); go_simp; (try with_reducible rfl))
      simp only [List.getElem_toArray, List.getElem_cons_succ, List.getElem_cons_zero, Act.put, List.setIfInBounds_toArray, List.set_cons_zero, List.set_cons_succ]
      refine wpAnyH_take (i := 2) (v := ?_) rfl (by kernel_rfl) (by kernel_rfl) (by kernel_rfl) (fun _ _ _ h => h) (Or.inl ⟨by rfl, ?_⟩) hHeld ?_
      rotate_left
      · (intro W hSw; (try dsimp only at hSw); go_simp; (try with_reducible rfl))
      simp only [List.getElem_toArray, List.getElem_cons_succ, List.getElem_cons_zero, Act.put, List.setIfInBounds_toArray, List.set_cons_zero, List.set_cons_succ]
      refine wpAnyH_take (i := 3) (v := ?_) rfl (by kernel_rfl) (by kernel_rfl) (by kernel_rfl) (fun _ _ _ h => h) (Or.inl ⟨by rfl, ?_⟩) hHeld ?_
      rotate_left
      · (intro W hSw; (try dsimp only at hSw); go_simp; (try with_reducible rfl))
      simp only [List.getElem_toArray, List.getElem_cons_succ, List.getElem_cons_zero, Act.put, List.setIfInBounds_toArray, List.set_cons_zero, List.set_cons_succ]
      refine wpAnyH_take (i := 4) (v := ?_) rfl (by kernel_rfl) (by kernel_rfl) (by kernel_rfl) (fun _ _ _ h => h) (Or.inl ⟨by rfl, ?_⟩) hHeld ?_
      rotate_left
      · (intro W hSw; (try dsimp only at hSw); go_simp; (try with_reducible rfl))
      simp only [List.getElem_toArray, List.getElem_cons_succ, List.getElem_cons_zero, Act.put, List.setIfInBounds_toArray, List.set_cons_zero, List.set_cons_succ]
      refine wpAnyH_take (i := 5) (v := ?_) rfl (by kernel_rfl) (by kernel_rfl) (by kernel_rfl) (fun _ _ _ h => h) (Or.inl ⟨by rfl, ?_⟩) hHeld ?_
      rotate_left
      · (intro W hSw; (try dsimp only at hSw); go_simp; (try with_reducible rfl))
      simp only [List.getElem_toArray, List.getElem_cons_succ, List.getElem_cons_zero, Act.put, List.setIfInBounds_toArray, List.set_cons_zero, List.set_cons_succ]
      refine wpAnyH_take (i := 7) (v := ?_) rfl (by kernel_rfl) (by kernel_rfl) (by kernel_rfl) (fun _ _ _ h => h) (Or.inl ⟨by rfl, ?_⟩) hHeld ?_
      rotate_left
      · (intro W hSw; (try dsimp only at hSw); go_simp; (try with_reducible rfl))
      simp only [List.getElem_toArray, List.getElem_cons_succ, List.getElem_cons_zero, Act.put, List.setIfInBounds_toArray, List.set_cons_zero, List.set_cons_succ]
      refine wpAnyH_take (i := 8) (v := _) rfl (by kernel_rfl) (by kernel_rfl) (by kernel_rfl) (fun _ _ _ h => h) (Or.inl ⟨by rfl, fun W _ => run_nil rfl rfl (HH.out.nt W)⟩) hHeld ?_
      simp only [List.getElem_toArray, List.getElem_cons_succ, List.getElem_cons_zero, Act.put, List.setIfInBounds_toArray, List.set_cons_zero, List.set_cons_succ]
      refine wpAnyH_take (i := 9) (v := ?_) rfl (by kernel_rfl) (by kernel_rfl) (by kernel_rfl) (fun _ _ _ h => h) (Or.inl ⟨by rfl, ?_⟩) hHeld ?_
      rotate_left
      · (intro W hSw; (try dsimp only at hSw); go_simp; (try with_reducible rfl))
      simp only [List.getElem_toArray, List.getElem_cons_succ, List.getElem_cons_zero, Act.put, List.setIfInBounds_toArray, List.set_cons_zero, List.set_cons_succ]
      refine wpAnyH_ready (rs := [6]) (by kernel_rfl) (by simp) (AllReadyH.cons rfl (fun K hK => ?_) AllReadyH.nil)
      rw [if_pos (by rfl)]
      unfold Oper.wp execOp
      go_simp
      refine hK.out _ _ trivial (fun hHeld => ?_)
      clear hK K c0
      try simp only [List.getElem_toArray, List.getElem_cons_succ, List.getElem_cons_zero, Act.put, List.setIfInBounds_toArray, List.set_cons_zero, List.set_cons_succ]
      refine wpAnyH_ready (rs := [10]) (by kernel_rfl) (by simp) (AllReadyH.cons rfl (fun K hK => ?_) AllReadyH.nil)
      refine step_inv (by rfl) (.tmp 38) "pentimento/op.text" [.tmp 35] #[9] rfl C.t C.x (by rfl) C.ft (HH.out.mt _) fn' E1.out E2.out E3.out (KT.out _ s' t (HW.out.drew HH.out).inv RM.out TS.out) (by rfl) ?_
      rintro e w7 ⟨rfl, i7, u7⟩
      refine ⟨_, rfl, ?_⟩
      have H7 := Lib.hid ((HW.out.drew HH.out).car i7 u7)
      have H8 := Lib.hid (H7.out.set HH.out k (C.txt s' t).1)
      have c7 := H7.out.cell HT.out
      have z7 := H7.out.free k
      generalize C.txt s' t = y at *
      obtain ⟨t2, s2⟩ := y
      simp only at GS H7 H8
      refine hK.out _ _ trivial (fun hHeld => ?_)
      clear hK K i7 u7
      simp only [List.getElem_toArray, List.getElem_cons_succ, List.getElem_cons_zero, Act.put, List.setIfInBounds_toArray, List.set_cons_zero, List.set_cons_succ]
      refine wpAnyH_take (i := 11) (v := ?_) rfl (by kernel_rfl) (by kernel_rfl) (by kernel_rfl) (fun _ _ _ h => h) (Or.inl ⟨by rfl, ?_⟩) hHeld ?_
      rotate_left
      · (intro W hSw; (try dsimp only at hSw); go_simp; (try with_reducible rfl))
      simp only [List.getElem_toArray, List.getElem_cons_succ, List.getElem_cons_zero, Act.put, List.setIfInBounds_toArray, List.set_cons_zero, List.set_cons_succ]
      refine wpAnyH_ready (rs := [12]) (by kernel_rfl) (by simp) (AllReadyH.cons rfl (fun K hK => ?_) AllReadyH.nil)
      rw [if_pos (by rfl)]
      unfold Oper.wp execOp
      go_simp
      refine hK.out _ _ trivial (fun hHeld => ?_)
      clear hK K c7 z7
      refine wpAnyH_done (by kernel_rfl) ?_ _
      refine NoPanic.normal ?_
      go_wp2_with fail
      go_roundw
      case rel => exact ⟨k + 1, _, s2, by go_num, GS.out, H8.out⟩
      case measure => simp [intOf]; omega
    · have DN := Lib.hid (RC.out.trans (hg.done hlt))
      have FI := Lib.hid (hw.fin HH.out hg.len hg.each (by omega))
      obtain ⟨c5, z5⟩ := hw.five
      clear hg hw KT E1 E2 E3
      go_wp2_with fail
      go_end0
      obtain ⟨x1, x2, x3⟩ := FI.out
      rw [DN.out]
      exact ⟨rfl, x1, ⟨_, x2⟩, x3⟩

end Go.Proofs.Ytfcibccipkokoaa.Op

namespace Go.Proofs.Ytfcibccipkokoaa
open Go.RowKit
theorem run_fnv {P : Program} {o : Oper} {a : Act} {w : World} {t : Operand} {args : Array Operand} {tys : Array TypeId} (hop : o.op = .call { callee := .value t, args := args, argTypes := tys })
    {n : Nat} {first : Array Value} (ht : a.eval t = .func (.func n) first #[]) {fn : Func} (hf : P.funcs[n]? = some fn) (hb : fn.body.isNone = false) (hn : (fn.name == "runtime.NumGoroutine") = false) :
    (execOp a.eval o).run P w = .ok (.enter n (first ++ args.map a.eval)) w := by
  simp [execOp, hop, resolve, ht, Deferred.ofValue, invoke, callFunc, program, Result.andThen]
  simp only [Sem.run, hf]
  rw [if_neg (by simpa using hn), if_neg (fun e => by rw [e] at hb; cases hb)]
  rfl
theorem wpList_fnv {P : Program} {ops : Array Oper} {rest : List Oper} {o : Oper} {a : Act} {w : World} {Q : Exit → Act → World → Prop}
    (hg : o.guard = none) (t : Operand) (args : List Operand) (tys : Array TypeId) (hop : o.op = .call { callee := .value t, args := args.toArray, argTypes := tys })
    (n : Nat) (first : List Value) (ht : a.eval t = .func (.func n) first.toArray #[]) (fn : Func) (hf : P.funcs[n]? = some fn) (hb : fn.body.isNone = false) (hn : (fn.name == "runtime.NumGoroutine") = false)
    {vs : List Value} {C : Ending → World → Prop} (hc : Calls P n vs.toArray w C) (hv : first ++ args.map a.eval = vs) (hk : ∀ e w', C e w' → ∃ v, e = .returned v ∧ wpList P ops Q rest (a.put o.dst v) w') :
    wpList P ops Q (o :: rest) a w := by
  refine wpList_plain hg fun K hK => ?_
  unfold Oper.wp
  have e1 : first.toArray ++ args.toArray.map a.eval = vs.toArray := by rw [← hv]; simp
  rw [run_fnv hop ht hf hb hn, Oper.upon_enter, e1]
  refine hc.mono fun e w' h => ?_
  obtain ⟨v, rfl, h2⟩ := hk e w' h
  exact hK _ _ h2

namespace Op
open Go.Proofs.Ytfcibccipkokoaa.Seq (strS Is Own)
open Go.Proofs.Ytfcibccipkokoaa.By
attribute [local go_sem ↓] Go.wp_at_zero Go.wp_at_succ

/-- a method value of the op in block g -/
def mv (g : Nat) (f : Nat) : Value := .func (.func f) #[.pointer (some ⟨g, 0, none⟩)] #[]
/-- what an op of this kind has -/
def hasF (k : Nat) : List Nat :=
  if k = 1 then [114, 115, 116]
  else if k = 2 ∨ k = 3 then [117, 118]
  else if k = 4 ∨ k = 5 then [117]
  else if k = 6 then [119]
  else if k = 7 then [116]
  else if k = 8 then [117, 120, 118]
  else []
/-- these methods lie there, one by one -/
def Fs (w : World) (g : Nat) (v : Value) (fs : List Nat) : Prop := (fs = [] ∧ ∃ a c, v = .slice a 0 c) ∨ ∃ b, v = .slice (some ⟨b, 0, none⟩) fs.length fs.length ∧ w.heap[b]? = some (.cells (fs.map (mv g)).toArray 73 (0, 0))
theorem Fs.at {w : World} {g : Nat} {a : Option Addr} {n c : Nat} {fs : List Nat} (h : Fs w g (.slice a n c) fs) {i f : Nat} (hi : fs[i]? = some f) : ∃ b, a = some ⟨b, 0, none⟩ ∧ w.cell? ⟨b, i, none⟩ = some (mv g f) := by
  rcases h with ⟨rfl, _⟩ | ⟨b, hv, hb⟩
  · simp at hi
  · simp only [Value.slice.injEq] at hv
    obtain ⟨rfl, _, _⟩ := hv
    refine ⟨b, rfl, ?_⟩
    rw [cell_of_row _ _ _ _ _ _ hb]
    simp [hi]
theorem Fs.keep {w w' : World} {g : Nat} {v : Value} {fs : List Nat} (h : Fs w g v fs) {B : Nat} (k : Only B tall w w') : Fs w' g v fs := by
  rcases h with h | ⟨b, hv, hb⟩
  · exact .inl h
  · exact .inr ⟨b, hv, k.keep hb (by decide)⟩
theorem Fs.shape {w : World} {g : Nat} {v : Value} {fs : List Nat} (h : Fs w g v fs) : ∃ a c, v = .slice a fs.length c := by
  rcases h with ⟨rfl, a, c, rfl⟩ | ⟨b, rfl, hb⟩
  · exact ⟨a, c, rfl⟩
  · exact ⟨_, _, rfl⟩

set_option maxRecDepth 100000 in
set_option maxHeartbeats 2000000 in
theorem phas_any {w : World} {g k : Nat} (c0 : w.cell? ⟨g, 0, none⟩ = some (.int .u8 (k : Int))) :
    Calls Try.prog 80 #[.pointer (some ⟨g, 0, none⟩)] w fun e w' => ∃ v, e = .returned v ∧ Fs w' g v (hasF k) ∧ Below w.heap.size w w' := by
  have hmf : ∀ (fn : Fn) (first cap : Array Value) (w : World), (Instr.makeFunc fn first cap).run Try.prog w = .ok (.func fn first cap) w := fun _ _ _ _ => rfl
  have N3 := Lib.hid (fun (a b c : Nat) => (show Fs (w.alloc (.cells #[mv g a, mv g b, mv g c] 73)) g (.slice (some ⟨w.heap.size, 0, none⟩) 3 3) [a, b, c] from .inr ⟨_, rfl, heap_alloc_new _ _⟩))
  have N2 := Lib.hid (fun (a b : Nat) => (show Fs (w.alloc (.cells #[mv g a, mv g b] 73)) g (.slice (some ⟨w.heap.size, 0, none⟩) 2 2) [a, b] from .inr ⟨_, rfl, heap_alloc_new _ _⟩))
  have N1 := Lib.hid (fun (a : Nat) => (show Fs (w.alloc (.cells #[mv g a] 73)) g (.slice (some ⟨w.heap.size, 0, none⟩) 1 1) [a] from .inr ⟨_, rfl, heap_alloc_new _ _⟩))
  have BN := Lib.hid (fun o => below_new w o)
  rcases (show k = 1 ∨ k = 2 ∨ k = 3 ∨ k = 4 ∨ k = 5 ∨ k = 6 ∨ k = 7 ∨ k = 8 ∨ (k = 0 ∨ 8 < k) by omega) with rfl | rfl | rfl | rfl | rfl | rfl | rfl | rfl | h
  · go_enter Try.func80, Try.ntmps80
    go_wp2_with fail
    go_ret
    exact ⟨_, rfl, N3.out _ _ _, BN.out _⟩
  · go_enter Try.func80, Try.ntmps80
    go_wp2_with fail
    go_ret
    exact ⟨_, rfl, N2.out _ _, BN.out _⟩
  · go_enter Try.func80, Try.ntmps80
    go_wp2_with fail
    go_ret
    exact ⟨_, rfl, N2.out _ _, BN.out _⟩
  · go_enter Try.func80, Try.ntmps80
    go_wp2_with fail
    go_ret
    exact ⟨_, rfl, N1.out _, BN.out _⟩
  · go_enter Try.func80, Try.ntmps80
    go_wp2_with fail
    go_ret
    exact ⟨_, rfl, N1.out _, BN.out _⟩
  · go_enter Try.func80, Try.ntmps80
    go_wp2_with fail
    go_ret
    exact ⟨_, rfl, N1.out _, BN.out _⟩
  · go_enter Try.func80, Try.ntmps80
    go_wp2_with fail
    go_ret
    exact ⟨_, rfl, N1.out _, BN.out _⟩
  · go_enter Try.func80, Try.ntmps80
    go_wp2_with fail
    go_ret
    exact ⟨_, rfl, N3.out _ _ _, BN.out _⟩
  · have E := Lib.hid (show hasF k = [] by unfold hasF; rw [if_neg (by omega), if_neg (by omega), if_neg (by omega), if_neg (by omega), if_neg (by omega), if_neg (by omega)])
    have e1 : ((k : Int) == 1) = false := by rw [beq_eq_false_iff_ne]; omega
    have e2 : ((k : Int) == 2) = false := by rw [beq_eq_false_iff_ne]; omega
    have e3 : ((k : Int) == 3) = false := by rw [beq_eq_false_iff_ne]; omega
    have e4 : ((k : Int) == 4) = false := by rw [beq_eq_false_iff_ne]; omega
    have e5 : ((k : Int) == 5) = false := by rw [beq_eq_false_iff_ne]; omega
    have e6 : ((k : Int) == 6) = false := by rw [beq_eq_false_iff_ne]; omega
    have e7 : ((k : Int) == 7) = false := by rw [beq_eq_false_iff_ne]; omega
    have e8 : ((k : Int) == 8) = false := by rw [beq_eq_false_iff_ne]; omega
    have hb := Lib.hid h
    clear h
    go_enter Try.func80, Try.ntmps80
    go_wp2_with fail
    go_ret
    exact ⟨_, rfl, .inl ⟨E.out, _, _, rfl⟩, Below.refl _ _⟩
end Op
end Go.Proofs.Ytfcibccipkokoaa

namespace Go.Proofs.Ytfcibccipkokoaa.Op
open Go.RowKit
open Go.Proofs.Ytfcibccipkokoaa.Seq (strS Is Own)
open Go.Proofs.Ytfcibccipkokoaa.By
attribute [local go_sem ↓] Go.wp_at_zero Go.wp_at_succ

theorem hasF_len (k : Nat) : (hasF k).length ≤ 3 := by
  unfold hasF
  repeat' split
  all_goals simp
/-- what a method does to an op and to who carries it -/
def Does {σ : Type} (C : Car σ) (f : Nat) (p q : O × σ) : Prop :=
  (∃ fn, Try.prog.funcs[f]? = some fn ∧ fn.body.isNone = false ∧ (fn.name == "runtime.NumGoroutine") = false) ∧
  ∀ (w : World) (g : Nat) (u : Value), C.inv w p.2 → Pb C.B w g p.1 u → Calls Try.prog f #[.pointer (some ⟨g, 0, none⟩), C.v] w fun e w' => e = .returned (.tuple #[]) ∧ C.inv w' q.2 ∧ (∃ u', Pb C.B w' g q.1 u') ∧ Only C.B tall w w'
/-- one behind the other -/
inductive Chain {σ : Type} (C : Car σ) : List Nat → O × σ → O × σ → Prop
  | nil (p : O × σ) : Chain C [] p p
  | cons {f : Nat} {fs : List Nat} {p q r : O × σ} : Does C f p q → Chain C fs q r → Chain C (f :: fs) p r

/-- while they are done: i of them have been -/
structure Ln {σ : Type} (C : Car σ) (w wr : World) (g : Nat) (v : Value) (fs : List Nat) (i : Nat) (r : O × σ) : Prop where
  ex : ∃ (p : O × σ) (u : Value), C.inv wr p.2 ∧ Pb C.B wr g p.1 u ∧ Chain C (fs.drop i) p r
  lies : Fs wr g v fs
  only : Only C.B tall w wr
  le : i ≤ fs.length
theorem Ln.start {σ : Type} {C : Car σ} {w w1 : World} {g : Nat} {v : Value} {fs : List Nat} {p r : O × σ} {u : Value} (H : C.Ok) (I : C.inv w p.2) (X : Pb C.B w g p.1 u) (hc : Chain C fs p r) (hf : Fs w1 g v fs) (b : Below w.heap.size w w1) : Ln C w w1 g v fs 0 r :=
  ⟨⟨p, u, H.keep _ _ _ I (Only.ofNew b), X.later b, hc⟩, hf, Only.ofNew b, Nat.zero_le _⟩
theorem Ln.at {σ : Type} {C : Car σ} {w wr : World} {g : Nat} {a : Option Addr} {n c : Nat} {fs : List Nat} {i : Nat} {r : O × σ} (h : Ln C w wr g (.slice a n c) fs i r) (hi : i < fs.length) :
    ∃ f b fn, a = some ⟨b, 0, none⟩ ∧ wr.cell? ⟨b, i, none⟩ = some (mv g f) ∧ Try.prog.funcs[f]? = some fn ∧ fn.body.isNone = false ∧ (fn.name == "runtime.NumGoroutine") = false ∧
      Calls Try.prog f [.pointer (some ⟨g, 0, none⟩), C.v].toArray wr fun e w' => e = .returned (.tuple #[]) ∧ Ln C w w' g (.slice a n c) fs (i + 1) r := by
  obtain ⟨p, u, I, X, hc⟩ := h.ex
  rw [List.drop_eq_getElem_cons hi] at hc
  cases hc with
  | @cons f fs' p q r hd hc =>
    obtain ⟨⟨fn, h1, h2, h3⟩, h4⟩ := hd
    obtain ⟨b, rfl, hb⟩ := h.lies.at (List.getElem?_eq_getElem hi)
    refine ⟨fs[i], b, fn, rfl, hb, h1, h2, h3, (h4 wr g u I X).mono ?_⟩
    rintro e w' ⟨rfl, i2, ⟨u2, x2⟩, k⟩
    exact ⟨rfl, ⟨q, u2, i2, x2, hc⟩, h.lies.keep k, h.only.trans k, hi⟩
theorem Ln.done {σ : Type} {C : Car σ} {w wr : World} {g : Nat} {v : Value} {fs : List Nat} {i : Nat} {r : O × σ} (h : Ln C w wr g v fs i r) (hi : ¬ i < fs.length) : C.inv wr r.2 ∧ (∃ u', Pb C.B wr g r.1 u') ∧ Only C.B tall w wr := by
  obtain ⟨p, u, I, X, hc⟩ := h.ex
  rw [List.drop_of_length_le (by omega)] at hc
  cases hc
  exact ⟨I, ⟨u, X⟩, h.only⟩

set_option maxRecDepth 100000 in
set_option maxHeartbeats 2000000 in
theorem through_any {σ : Type} {C : Car σ} (H : C.Ok) {w : World} {g : Nat} {o : O} {u : Value} {s : σ} {r : O × σ} (I : C.inv w s) (X : Pb C.B w g o u) (hc : Chain C (hasF o.kind) (o, s) r) :
    Calls Try.prog 62 #[.pointer (some ⟨g, 0, none⟩), C.v] w fun e w' => e = .returned (.tuple #[]) ∧ C.inv w' r.2 ∧ (∃ u', Pb C.B w' g r.1 u') ∧ Only C.B tall w w' := by
  have HK := Lib.hid (phas_any X.nine.1)
  have ST := Lib.hid (fun (w1 : World) (v : Value) (hf : Fs w1 g v (hasF o.kind)) (b : Below w.heap.size w w1) => Ln.start H (p := (o, s)) I X hc hf b)
  have HL := Lib.hid (hasF_len o.kind)
  generalize hasF o.kind = fs at *
  obtain ⟨n, hn⟩ : ∃ n, n = fs.length := ⟨_, rfl⟩
  have HN := Lib.hid hn
  have hl : n ≤ 3 := by rw [hn]; exact HL.out
  clear I X hc H hn
  go_enter Try.func62, Try.ntmps62
  go_upto_region 0 with fail
  go_wp2_with fail
  refine HK.out.mono ?_
  rintro e w1 ⟨v, rfl, hf, b⟩
  have S1 := Lib.hid (ST.out w1 v hf b)
  obtain ⟨a, c, rfl⟩ := hf.shape
  rw [← HN.out] at S1 ⊢
  clear hf b ST HK
  go_wp2_with fail
  obtain ⟨wz, hwz⟩ : ∃ wz, wz = w1 := ⟨_, rfl⟩
  rw [← hwz] at S1 ⊢
  clear hwz
  go_loopw [9] (fun i wr => ∃ k : Nat, i = .int .i64 (k : Int) ∧ Ln C w wr g (.slice a n c) fs k r) (fun i _ => n - (intOf i).toNat)
  case atStart => exact ⟨0, rfl, S1.out⟩
  case round =>
    obtain ⟨k, rfl, h⟩ := hrel
    clear S1
    by_cases hlt : k < n
    · obtain ⟨f, b, fn, rfl, c0, f1, f2, f3, hc⟩ := h.at (by rw [← HN.out]; exact hlt)
      have HC := Lib.hid hc
      have F1 := Lib.hid f1; have F2 := Lib.hid f2; have F3 := Lib.hid f3
      unfold mv at c0
      have i1 : (0 : Int) ≤ (k : Int) := by omega
      have i2 : (k : Int) < (n : Int) := by omega
      clear hc h f1 f2 f3
      go_wp2_with (refine wpList_fnv rfl (.tmp 13) [.tmp 14] #[110] rfl f [.pointer (some ⟨g, 0, none⟩)] rfl fn F1.out F2.out F3.out HC.out rfl ?_; rintro e w7 ⟨rfl, h7⟩; refine ⟨_, rfl, ?_⟩; have H7 := Lib.hid h7; clear h7 c0)
      go_roundw
      case rel => exact ⟨k + 1, by go_num, H7.out⟩
      case measure => simp [intOf]; omega
    · have D := Lib.hid (h.done (by rw [← HN.out]; exact hlt))
      clear h
      go_wp2_with fail
      go_end0
      obtain ⟨x1, x2, x3⟩ := D.out
      exact ⟨rfl, x1, x2, x3⟩

set_option maxRecDepth 100000 in
set_option maxHeartbeats 2000000 in
theorem whole_any {σ : Type} {C : Car σ} (H : C.Ok) {w : World} {g : Nat} {o : O} {u : Value} {s : σ} {r : O × σ} (I : C.inv w s) (X : Pb C.B w g o u) (hc : Chain C [60, 61, 62] (o, s) r) :
    Calls Try.prog 32 #[.pointer (some ⟨g, 0, none⟩), C.v] w fun e w' => e = .returned (.tuple #[]) ∧ C.inv w' r.2 ∧ (∃ u', Pb C.B w' g r.1 u') ∧ Only C.B tall w w' := by
  have hmf : ∀ (fn : Fn) (first cap : Array Value) (w : World), (Instr.makeFunc fn first cap).run Try.prog w = .ok (.func fn first cap) w := fun _ _ _ _ => rfl
  obtain ⟨a, ha⟩ : ∃ a, a = some (⟨w.heap.size, 0, none⟩ : Addr) := ⟨_, rfl⟩
  have S1 := Lib.hid (Ln.start H (p := (o, s)) I X hc (w1 := w.alloc (.cells #[mv g 60, mv g 61, mv g 62] 73)) (v := .slice (some ⟨w.heap.size, 0, none⟩) 3 3) (.inr ⟨_, rfl, heap_alloc_new _ _⟩) (below_new w _))
  obtain ⟨fs, hfs⟩ : ∃ fs, fs = [60, 61, 62] := ⟨_, rfl⟩
  rw [← hfs, ← ha] at S1
  have HN := Lib.hid (show 3 = fs.length by rw [hfs]; rfl)
  have HA := Lib.hid ha
  clear I X hc H hfs ha
  unfold mv at S1
  go_enter Try.func32, Try.ntmps32
  go_upto_region 1 with fail
  rw [← HA.out]
  generalize w.alloc _ = w1 at *
  obtain ⟨wz, hwz⟩ : ∃ wz, wz = w1 := ⟨_, rfl⟩
  rw [← hwz] at S1 ⊢
  clear hwz
  go_loopw [14] (fun i wr => ∃ k : Nat, i = .int .i64 (k : Int) ∧ Ln C w wr g (.slice a 3 3) fs k r) (fun i _ => 3 - (intOf i).toNat)
  case atStart => exact ⟨0, rfl, S1.out⟩
  case round =>
    obtain ⟨k, rfl, h⟩ := hrel
    clear S1
    by_cases hlt : k < 3
    · obtain ⟨f, b, fn, rfl, c0, f1, f2, f3, hc⟩ := h.at (by rw [← HN.out]; exact hlt)
      have HC := Lib.hid hc
      have F1 := Lib.hid f1; have F2 := Lib.hid f2; have F3 := Lib.hid f3
      unfold mv at c0
      have i1 : (0 : Int) ≤ (k : Int) := by omega
      have i2 : (k : Int) < 3 := by omega
      clear hc h f1 f2 f3
      go_wp2_with (refine wpList_fnv rfl (.tmp 18) [.tmp 19] #[110] rfl f [.pointer (some ⟨g, 0, none⟩)] rfl fn F1.out F2.out F3.out HC.out rfl ?_; rintro e w7 ⟨rfl, h7⟩; refine ⟨_, rfl, ?_⟩; have H7 := Lib.hid h7; clear h7 c0)
      go_roundw
      case rel => exact ⟨k + 1, by go_num, H7.out⟩
      case measure => simp [intOf]; omega
    · have D := Lib.hid (h.done (by rw [← HN.out]; exact hlt))
      clear h
      go_wp2_with fail
      go_end0
      obtain ⟨x1, x2, x3⟩ := D.out
      exact ⟨rfl, x1, x2, x3⟩

end Go.Proofs.Ytfcibccipkokoaa.Op

namespace Go.Proofs.Ytfcibccipkokoaa.Op
open Go.RowKit
open Go.Proofs.Ytfcibccipkokoaa.By
attribute [local go_sem ↓] Go.wp_at_zero Go.wp_at_succ

set_option maxRecDepth 100000 in
theorem cnum_any (B : Nat) (w : World) (n m : Int) :
    Calls Try.prog 160 #[.agg #[], .int .u64 n, .int .i64 m] w fun e w' => e = .returned (.int .u64 0) ∧ Only B tcar w w' := by
  have U := Lib.hid (Only.ofNew (B := B) (T := tcar) (below_new w (.cells #[] 134)))
  go_enter Try.func160, Try.ntmps160
  go_wp2_with fail
  go_ret
  exact ⟨rfl, U.out⟩
set_option maxRecDepth 100000 in
theorem ctext_any (B : Nat) (w : World) (t : ByteArray) :
    Calls Try.prog 161 #[.agg #[], .string t] w fun e w' => e = .returned (.string ⟨#[]⟩) ∧ Only B tcar w w' := by
  have U := Lib.hid (Only.ofNew (B := B) (T := tcar) (below_new w (.cells #[] 134)))
  go_enter Try.func161, Try.ntmps161
  go_wp2_with fail
  go_ret
  exact ⟨rfl, U.out⟩
def cCar (B : Nat) : Car Unit where
  t := 134
  x := .agg #[]
  fn := 160
  ft := 161
  B := B
  num := fun _ _ _ => (0, ())
  txt := fun _ _ => (⟨#[]⟩, ())
  room := fun _ _ => True
  inv := fun _ _ => True
set_option maxRecDepth 100000 in
theorem cCar_ok (B : Nat) : (cCar B).Ok where
  mn := fun w => by kernel_rfl
  mt := fun w => by kernel_rfl
  nn := fun w => by kernel_rfl
  nt := fun w => by kernel_rfl
  en := ⟨_, Try.func160, by kernel_rfl, by kernel_rfl⟩
  et := ⟨_, Try.func161, by kernel_rfl, by kernel_rfl⟩
  lt := fun _ _ _ _ => Nat.pow_pos (by decide)
  tl := fun _ _ _ => Nat.zero_le _
  rl := fun _ _ _ _ _ => trivial
  rn := fun _ _ _ _ _ => trivial
  rt := fun _ _ _ _ => trivial
  keep := fun _ _ _ _ _ => trivial
  cn := fun w _ n m _ _ _ _ => (cnum_any B w n m).mono fun _ _ ⟨h1, h2⟩ => ⟨h1, trivial, h2⟩
  ct := fun w _ t _ _ _ => (ctext_any B w t).mono fun _ _ ⟨h1, h2⟩ => ⟨h1, trivial, h2⟩

/-! ### what becomes of an op -/
section
variable {σ : Type} (C : Car σ)
/-- what its kind has, carried -/
def thru (o : O) (s : σ) : O × σ :=
  if o.kind = 1 then
    ({ o with pkind := (C.num s o.pkind 1).1, level := (C.num (C.num s o.pkind 1).2 o.level 1).1, next := (C.num (C.num (C.num s o.pkind 1).2 o.level 1).2 o.next 4).1 }, (C.num (C.num (C.num s o.pkind 1).2 o.level 1).2 o.next 4).2)
  else if o.kind = 2 ∨ o.kind = 3 then
    ({ o with at' := ((C.num s o.at'.toNat 2).1 : Int), text := (C.txt (C.num s o.at'.toNat 2).2 o.text).1 }, (C.txt (C.num s o.at'.toNat 2).2 o.text).2)
  else if o.kind = 4 ∨ o.kind = 5 then
    ({ o with at' := ((C.num s o.at'.toNat 2).1 : Int) }, (C.num s o.at'.toNat 2).2)
  else if o.kind = 6 then
    ({ o with rows := (rowsC C s o.rows).1 }, (rowsC C s o.rows).2)
  else if o.kind = 7 then
    ({ o with next := (C.num s o.next 4).1 }, (C.num s o.next 4).2)
  else if o.kind = 8 then
    ({ o with at' := ((C.num s o.at'.toNat 2).1 : Int), off := ((C.num (C.num s o.at'.toNat 2).2 o.off.toNat 2).1 : Int), text := (C.txt (C.num (C.num s o.at'.toNat 2).2 o.off.toNat 2).2 o.text).1 }, (C.txt (C.num (C.num s o.at'.toNat 2).2 o.off.toNat 2).2 o.text).2)
  else (o, s)
/-- all of it, carried -/
def whol (o : O) (s : σ) : O × σ := thru C { o with kind := (C.num s o.kind 1).1, page := (C.num (C.num s o.kind 1).2 o.page 4).1 } (C.num (C.num s o.kind 1).2 o.page 4).2
/-- there is room for it -/
structure Rm (o : O) (s : σ) : Prop where
  num : C.room s 6
  text : C.room s (4 + (2 + o.text.size))
  rows : C.room (C.num s o.rows.length 2).2 (cost (fitTo (C.num s o.rows.length 2).1 o.rows))
end
theorem fn_of {f : Nat} {fn : Func} (h1 : Try.prog.funcs[f]? = some fn) (h2 : fn.body.isNone = false) (h3 : (fn.name == "runtime.NumGoroutine") = false) : ∃ fn, Try.prog.funcs[f]? = some fn ∧ fn.body.isNone = false ∧ (fn.name == "runtime.NumGoroutine") = false := ⟨fn, h1, h2, h3⟩
section
variable {σ : Type} {C : Car σ} (H : C.Ok)
include H
set_option maxRecDepth 100000 in
theorem d_kind {o : O} {s : σ} (h : C.room s 1) : Does C 60 (o, s) ({ o with kind := (C.num s o.kind 1).1 }, (C.num s o.kind 1).2) :=
  ⟨fn_of Try.func60 (by kernel_rfl) (by kernel_rfl), fun w g u I X => (kind_any H I X h).mono fun _ _ ⟨a, b, c, d⟩ => ⟨a, b, ⟨_, c⟩, d⟩⟩
set_option maxRecDepth 100000 in
theorem d_page {o : O} {s : σ} (h : C.room s 4) : Does C 61 (o, s) ({ o with page := (C.num s o.page 4).1 }, (C.num s o.page 4).2) :=
  ⟨fn_of Try.func61 (by kernel_rfl) (by kernel_rfl), fun w g u I X => (page_any H I X h).mono fun _ _ ⟨a, b, c, d⟩ => ⟨a, b, ⟨_, c⟩, d⟩⟩
set_option maxRecDepth 100000 in
theorem d_pkind {o : O} {s : σ} (h : C.room s 1) : Does C 114 (o, s) ({ o with pkind := (C.num s o.pkind 1).1 }, (C.num s o.pkind 1).2) :=
  ⟨fn_of Try.func114 (by kernel_rfl) (by kernel_rfl), fun w g u I X => (pkind_any H I X h).mono fun _ _ ⟨a, b, c, d⟩ => ⟨a, b, ⟨_, c⟩, d⟩⟩
set_option maxRecDepth 100000 in
theorem d_level {o : O} {s : σ} (h : C.room s 1) : Does C 115 (o, s) ({ o with level := (C.num s o.level 1).1 }, (C.num s o.level 1).2) :=
  ⟨fn_of Try.func115 (by kernel_rfl) (by kernel_rfl), fun w g u I X => (level_any H I X h).mono fun _ _ ⟨a, b, c, d⟩ => ⟨a, b, ⟨_, c⟩, d⟩⟩
set_option maxRecDepth 100000 in
theorem d_next {o : O} {s : σ} (h : C.room s 4) : Does C 116 (o, s) ({ o with next := (C.num s o.next 4).1 }, (C.num s o.next 4).2) :=
  ⟨fn_of Try.func116 (by kernel_rfl) (by kernel_rfl), fun w g u I X => (next_any H I X h).mono fun _ _ ⟨a, b, c, d⟩ => ⟨a, b, ⟨_, c⟩, d⟩⟩
set_option maxRecDepth 100000 in
theorem d_at {o : O} {s : σ} (h : C.room s 2) : Does C 117 (o, s) ({ o with at' := ((C.num s o.at'.toNat 2).1 : Int) }, (C.num s o.at'.toNat 2).2) :=
  ⟨fn_of Try.func117 (by kernel_rfl) (by kernel_rfl), fun w g u I X => (at_any H I X h).mono fun _ _ ⟨a, b, c, d⟩ => ⟨a, b, ⟨_, c⟩, d⟩⟩
set_option maxRecDepth 100000 in
theorem d_off {o : O} {s : σ} (h : C.room s 2) : Does C 120 (o, s) ({ o with off := ((C.num s o.off.toNat 2).1 : Int) }, (C.num s o.off.toNat 2).2) :=
  ⟨fn_of Try.func120 (by kernel_rfl) (by kernel_rfl), fun w g u I X => (off_any H I X h).mono fun _ _ ⟨a, b, c, d⟩ => ⟨a, b, ⟨_, c⟩, d⟩⟩
set_option maxRecDepth 100000 in
theorem d_text {o : O} {s : σ} (h : C.room s (2 + o.text.size)) : Does C 118 (o, s) ({ o with text := (C.txt s o.text).1 }, (C.txt s o.text).2) :=
  ⟨fn_of Try.func118 (by kernel_rfl) (by kernel_rfl), fun w g u I X => (text_any H I X h).mono fun _ _ ⟨a, b, c, d⟩ => ⟨a, b, ⟨_, c⟩, d⟩⟩
set_option maxRecDepth 100000 in
theorem d_rows {o : O} {s : σ} (h : C.room s 2) (h2 : C.room (C.num s o.rows.length 2).2 (cost (fitTo (C.num s o.rows.length 2).1 o.rows))) : Does C 119 (o, s) ({ o with rows := (rowsC C s o.rows).1 }, (rowsC C s o.rows).2) :=
  ⟨fn_of Try.func119 (by kernel_rfl) (by kernel_rfl), fun w g u I X => rows_any H I X h h2⟩
theorem thru_chain {o : O} {s : σ} (R : Rm C o s) : Chain C (hasF o.kind) (o, s) (thru C o s) := by
  have r6 := R.num
  have rt := R.text
  have n4 : C.room (C.num s o.at'.toNat 2).2 (2 + (2 + o.text.size)) := H.rn _ _ _ _ (H.rl _ _ _ (by omega) rt)
  unfold hasF thru
  by_cases h1 : o.kind = 1
  · rw [if_pos h1, if_pos h1]
    exact .cons (d_pkind H (H.rl _ _ _ (by omega) r6)) (.cons (d_level H (o := { o with pkind := (C.num s o.pkind 1).1 }) (H.rl _ _ _ (by omega) (H.rn s o.pkind 1 5 r6))) (.cons (d_next H (o := { o with pkind := (C.num s o.pkind 1).1, level := (C.num (C.num s o.pkind 1).2 o.level 1).1 }) (H.rn (C.num s o.pkind 1).2 o.level 1 4 (H.rn s o.pkind 1 5 r6))) (.nil _)))
  rw [if_neg h1, if_neg h1]
  by_cases h2 : o.kind = 2 ∨ o.kind = 3
  · rw [if_pos h2, if_pos h2]
    exact .cons (d_at H (H.rl _ _ _ (by omega) r6)) (.cons (d_text H (o := { o with at' := ((C.num s o.at'.toNat 2).1 : Int) }) (H.rl _ _ _ (by simp only; omega) n4)) (.nil _))
  rw [if_neg h2, if_neg h2]
  by_cases h3 : o.kind = 4 ∨ o.kind = 5
  · rw [if_pos h3, if_pos h3]
    exact .cons (d_at H (H.rl _ _ _ (by omega) r6)) (.nil _)
  rw [if_neg h3, if_neg h3]
  by_cases h4 : o.kind = 6
  · rw [if_pos h4, if_pos h4]
    exact .cons (d_rows H (H.rl _ _ _ (by omega) r6) R.rows) (.nil _)
  rw [if_neg h4, if_neg h4]
  by_cases h5 : o.kind = 7
  · rw [if_pos h5, if_pos h5]
    exact .cons (d_next H (H.rl _ _ _ (by omega) r6)) (.nil _)
  rw [if_neg h5, if_neg h5]
  by_cases h6 : o.kind = 8
  · rw [if_pos h6, if_pos h6]
    exact .cons (d_at H (H.rl _ _ _ (by omega) r6)) (.cons (d_off H (o := { o with at' := ((C.num s o.at'.toNat 2).1 : Int) }) (H.rl _ _ _ (by omega) n4)) (.cons (d_text H (o := { o with at' := ((C.num s o.at'.toNat 2).1 : Int), off := ((C.num (C.num s o.at'.toNat 2).2 o.off.toNat 2).1 : Int) }) (H.rn (C.num s o.at'.toNat 2).2 o.off.toNat 2 (2 + o.text.size) n4)) (.nil _)))
  rw [if_neg h6, if_neg h6]
  exact .nil _
set_option maxRecDepth 100000 in
theorem d_through {o : O} {s : σ} (R : Rm C o s) : Does C 62 (o, s) (thru C o s) :=
  ⟨fn_of Try.func62 (by kernel_rfl) (by kernel_rfl), fun w g u I X => through_any H I X (thru_chain H R)⟩
theorem whole_chain {o : O} {s : σ} (r : C.room s 5) (R : Rm C { o with kind := (C.num s o.kind 1).1, page := (C.num (C.num s o.kind 1).2 o.page 4).1 } (C.num (C.num s o.kind 1).2 o.page 4).2) : Chain C [60, 61, 62] (o, s) (whol C o s) :=
  .cons (d_kind H (H.rl _ _ _ (by omega) r)) (.cons (d_page H (o := { o with kind := (C.num s o.kind 1).1 }) (H.rn s o.kind 1 4 r)) (.cons (d_through H R) (.nil _)))
end

end Go.Proofs.Ytfcibccipkokoaa.Op

namespace Go.Proofs.Ytfcibccipkokoaa.Op
open Go.RowKit
open Go.Proofs.Ytfcibccipkokoaa.Seq (strS Is)
open Go.Proofs.Ytfcibccipkokoaa.Strs (nth ext_nth beq_yes beq_no)
attribute [local go_sem ↓] Go.wp_at_zero Go.wp_at_succ

theorem is_rows2 {w : World} {v : Value} {l : List ByteArray} (h : Is strS w v l) : Page.Rows w v l := by
  obtain ⟨a, cap, rfl, h1, h2, hc⟩ := h
  refine ⟨a, cap, rfl, hc.imp id ?_⟩
  rintro ⟨x, o, rfl, hx, hj⟩
  refine ⟨x, o, rfl, hx, fun j hj2 => hj j _ ?_⟩
  rw [all_str, List.getElem?_map, List.getElem?_eq_getElem hj2]
  simp [Page.nth, List.getD_eq_getElem?_getD, hj2]
set_option maxRecDepth 100000 in
theorem place_any (n : Int) (w : World) (_hn : -9223372036854775808 ≤ n ∧ n ≤ 9223372036854775807) :
    Calls Try.prog 56 #[.int .i64 n] w fun e w' => e = .returned (.bool (decide (0 ≤ n ∧ n ≤ 488))) ∧ w = w' := by
  obtain ⟨b, hb⟩ : ∃ b, b = decide (0 ≤ n ∧ n ≤ 488) := ⟨_, rfl⟩
  rw [← hb]
  have HB := Lib.hid hb
  clear hb
  go_enter Try.func56, Try.ntmps56
  go_wp2_with fail
  all_goals
    go_ret
    exact ⟨ret_bool (by rw [HB.out, Bool.eq_iff_iff]; simp; try omega), rfl⟩
set_option maxRecDepth 100000 in
set_option maxHeartbeats 1000000 in
theorem texts_any {w : World} {t : ByteArray} {v : Value} {l : List ByteArray} (h : Is strS w v l) (ht : t.size ≤ 140737488351232) (hl : l.length ≤ 140737488351232) (he : ∀ r ∈ l, r.size ≤ 140737488351232) :
    Calls Try.prog 57 #[.string t, v] w fun e w' => e = .returned (.bool (decide (l.length ≤ 488 ∧ t.size + total l ≤ 488))) ∧ w = w' := by
  obtain ⟨b, hb⟩ : ∃ b, b = decide (l.length ≤ 488 ∧ t.size + total l ≤ 488) := ⟨_, rfl⟩
  rw [← hb]
  have HB := Lib.hid hb
  clear hb
  obtain ⟨ad, c, rfl⟩ := h.shape
  by_cases h0 : 488 < l.length
  · have NO := Lib.hid (show b = false by rw [HB.out, decide_eq_false_iff_not]; omega)
    have hI : (488 : Int) < (l.length : Int) := by omega
    clear h he
    go_enter Try.func57, Try.ntmps57
    go_wp2_with fail
    go_ret
    exact ⟨ret_bool NO.out.symm, rfl⟩
  · have H := Lib.hid h
    have HE := Lib.hid he
    have hI : (l.length : Int) ≤ 488 := by omega
    clear h he
    go_enter Try.func57, Try.ntmps57
    go_wp2_with fail
    go_loop [5, 15] (fun n i => ∃ k s : Nat, k ≤ l.length ∧ n = .int .i64 s ∧ i = .int .i64 k ∧ s = t.size + total (l.take k) ∧ s ≤ (k + 1) * 140737488351232) (fun _ i => l.length - (intOf i).toNat)
    case atStart => exact ⟨0, t.size, by omega, by go_num, by go_num, rfl, by omega⟩
    case round =>
      obtain ⟨k, s, hk, rfl, rfl, hs, hle⟩ := hrel
      by_cases hlt : k < l.length
      · obtain ⟨x, y, rfl, _, d⟩ := Seq.str_at H.out hlt
        have hz := HE.out _ (List.getElem_mem hlt)
        have HS := Lib.hid (show s + l[k].size = t.size + total (l.take (k + 1)) by rw [total_take hlt]; omega)
        clear hs
        generalize l[k] = z at *
        go_wp2_with fail
        go_round
        case rel => exact ⟨k + 1, s + z.size, by omega, by go_num, by go_num, HS.out, by omega⟩
        case measure => simp [intOf]; omega
      · have E := Lib.hid (show b = decide (s ≤ 488) by
          have e : l.take k = l := List.take_of_length_le (by omega)
          rw [HB.out, hs, e, Bool.eq_iff_iff]; simp; omega)
        clear hs
        go_wp2_with fail
        go_ret
        exact ⟨ret_bool (by rw [E.out, Bool.eq_iff_iff]; simp; try omega), rfl⟩

theorem ob_false {x : Bool} (h : x = false) : Ending.returned (.bool false) = .returned (.bool x) := by rw [h]
set_option maxRecDepth 100000 in
set_option maxHeartbeats 4000000 in
theorem csame_any {w : World} {a b : O} {u v : Value} (ha : In w a u) (hb : In w b v) : Calls Try.prog 78 #[oV a u, oV b v] w fun e w' => e = .returned (.bool (decide (a = b))) ∧ Below w.heap.size w w' := by
  have LL := Lib.hid (fun o o2 : Obj => Page.equal_any (is_rows2 (ha.rows.later (Page.below2 w o o2))) (is_rows2 (hb.rows.later (Page.below2 w o o2))) (by have := ha.len; omega) (by have := hb.len; omega))
  have BB := Lib.hid (fun o o2 => Page.below2 w o o2)
  have T0 := Lib.hid (B2.start w a b u v)
  clear ha hb
  obtain ⟨kind, page, at', off, text, rows, pkind, level, next⟩ := a
  obtain ⟨kind2, page2, at2, off2, text2, rows2, pkind2, level2, next2⟩ := b
  simp only at LL
  by_cases h : kind = kind2 ∧ page = page2 ∧ at' = at2 ∧ off = off2 ∧ text = text2 ∧ pkind = pkind2 ∧ level = level2 ∧ next = next2
  · obtain ⟨rfl, rfl, rfl, rfl, rfl, rfl, rfl, rfl⟩ := h
    have E := Lib.hid (show decide ((⟨kind, page, at', off, text, rows, pkind, level, next⟩ : O) = ⟨kind, page, at', off, text, rows2, pkind, level, next⟩) = decide (rows = rows2) by rw [Bool.eq_iff_iff]; simp)
    generalize decide (rows = rows2) = x at *
    generalize decide ((⟨kind, page, at', off, text, rows, pkind, level, next⟩ : O) = _) = y at *
    unfold oV oC
    simp only
    cases x <;> go_enter Try.func78, Try.ntmps78
    all_goals go_wp2_with (go_at_call 113; refine (LL.out _ _).mono ?_; rintro e w' ⟨rfl, b⟩; obtain ⟨x0, x1, x2, x3, x4, x5, x6, x7, x8⟩ := (T0.out.later b).a.nine; obtain ⟨y0, y1, y2, y3, y4, y5, y6, y7, y8⟩ := (T0.out.later b).b.nine)
    all_goals
      go_ret
      exact ⟨ret_bool E.out.symm, (BB.out _ _).trans (b.mono (BB.out _ _).size)⟩
  · have NO := Lib.hid (show decide ((⟨kind, page, at', off, text, rows, pkind, level, next⟩ : O) = ⟨kind2, page2, at2, off2, text2, rows2, pkind2, level2, next2⟩) = false by
      rw [decide_eq_false_iff_not]
      intro e
      simp only [O.mk.injEq] at e
      exact h ⟨e.1, e.2.1, e.2.2.1, e.2.2.2.1, e.2.2.2.2.1, e.2.2.2.2.2.2⟩)
    have hw : kind ≠ kind2 ∨ (kind = kind2 ∧ page ≠ page2) ∨ (kind = kind2 ∧ page = page2 ∧ at' ≠ at2) ∨ (kind = kind2 ∧ page = page2 ∧ at' = at2 ∧ off ≠ off2) ∨ (kind = kind2 ∧ page = page2 ∧ at' = at2 ∧ off = off2 ∧ text ≠ text2) ∨ (kind = kind2 ∧ page = page2 ∧ at' = at2 ∧ off = off2 ∧ text = text2 ∧ pkind ≠ pkind2) ∨ (kind = kind2 ∧ page = page2 ∧ at' = at2 ∧ off = off2 ∧ text = text2 ∧ pkind = pkind2 ∧ level ≠ level2) ∨ (kind = kind2 ∧ page = page2 ∧ at' = at2 ∧ off = off2 ∧ text = text2 ∧ pkind = pkind2 ∧ level = level2 ∧ next ≠ next2) := by
      grind
    generalize decide (rows = rows2) = x at *
    generalize decide ((⟨kind, page, at', off, text, rows, pkind, level, next⟩ : O) = _) = y at *
    clear h
    unfold oV oC
    simp only
    rcases hw with h | ⟨rfl, h⟩ | ⟨rfl, rfl, h⟩ | ⟨rfl, rfl, rfl, h⟩ | ⟨rfl, rfl, rfl, rfl, h⟩ | ⟨rfl, rfl, rfl, rfl, rfl, h⟩ | ⟨rfl, rfl, rfl, rfl, rfl, rfl, h⟩ | ⟨rfl, rfl, rfl, rfl, rfl, rfl, rfl, h⟩
    · have f : ((kind : Int) == kind2) = false := by rw [beq_eq_false_iff_ne]; omega
      clear h
      go_enter Try.func78, Try.ntmps78
      go_wp2_with fail
      go_ret
      exact ⟨ob_false NO.out, BB.out _ _⟩
    · have f : ((page : Int) == page2) = false := by rw [beq_eq_false_iff_ne]; omega
      clear h
      go_enter Try.func78, Try.ntmps78
      go_wp2_with fail
      go_ret
      exact ⟨ob_false NO.out, BB.out _ _⟩
    · have f : (at' == at2) = false := by rw [beq_eq_false_iff_ne]; omega
      clear h
      go_enter Try.func78, Try.ntmps78
      go_wp2_with fail
      go_ret
      exact ⟨ob_false NO.out, BB.out _ _⟩
    · have f : (off == off2) = false := by rw [beq_eq_false_iff_ne]; omega
      clear h
      go_enter Try.func78, Try.ntmps78
      go_wp2_with fail
      go_ret
      exact ⟨ob_false NO.out, BB.out _ _⟩
    · have f := beq_no h
      clear h
      go_enter Try.func78, Try.ntmps78
      go_wp2_with fail
      go_ret
      exact ⟨ob_false NO.out, BB.out _ _⟩
    · have f : ((pkind : Int) == pkind2) = false := by rw [beq_eq_false_iff_ne]; omega
      clear h
      go_enter Try.func78, Try.ntmps78
      go_wp2_with (go_at_call 113; refine (LL.out _ _).mono ?_; rintro e w' ⟨rfl, b⟩; obtain ⟨x0, x1, x2, x3, x4, x5, x6, x7, x8⟩ := (T0.out.later b).a.nine; obtain ⟨y0, y1, y2, y3, y4, y5, y6, y7, y8⟩ := (T0.out.later b).b.nine)
      all_goals
        go_ret
        exact ⟨ob_false NO.out, (BB.out _ _).trans (b.mono (BB.out _ _).size)⟩
    · have f : ((level : Int) == level2) = false := by rw [beq_eq_false_iff_ne]; omega
      clear h
      go_enter Try.func78, Try.ntmps78
      go_wp2_with (go_at_call 113; refine (LL.out _ _).mono ?_; rintro e w' ⟨rfl, b⟩; obtain ⟨x0, x1, x2, x3, x4, x5, x6, x7, x8⟩ := (T0.out.later b).a.nine; obtain ⟨y0, y1, y2, y3, y4, y5, y6, y7, y8⟩ := (T0.out.later b).b.nine)
      all_goals
        go_ret
        exact ⟨ob_false NO.out, (BB.out _ _).trans (b.mono (BB.out _ _).size)⟩
    · have f : ((next : Int) == next2) = false := by rw [beq_eq_false_iff_ne]; omega
      clear h
      go_enter Try.func78, Try.ntmps78
      go_wp2_with (go_at_call 113; refine (LL.out _ _).mono ?_; rintro e w' ⟨rfl, b⟩; obtain ⟨x0, x1, x2, x3, x4, x5, x6, x7, x8⟩ := (T0.out.later b).a.nine; obtain ⟨y0, y1, y2, y3, y4, y5, y6, y7, y8⟩ := (T0.out.later b).b.nine)
      all_goals
        go_ret
        exact ⟨ob_false NO.out, (BB.out _ _).trans (b.mono (BB.out _ _).size)⟩

end Go.Proofs.Ytfcibccipkokoaa.Op
