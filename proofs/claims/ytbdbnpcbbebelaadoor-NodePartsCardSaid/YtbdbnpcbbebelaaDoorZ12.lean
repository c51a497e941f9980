/-
  Plain mathematics: keys that rise, what is found in them, where rows are cut, what two pages are as one.
  Walks: the code's small ones: shape, places, weights.
  Walks: what a row's key is, by kinds.
  Walks: the keys of a page, in the code.
-/
import Derived.Maps.OwnSet
import Derived.Test.YtbdbnpcbbebelaaDoorZ11
namespace Go.Proofs.YtbdbnpcbbebelaaDoor.Node
open Go.Proofs.YtbdbnpcbbebelaaDoor.Page (Pg nth used)
open Go.Proofs.YtbdbnpcbbebelaaDoor.Key (cmpOf between)

/-! ### the order of texts -/
theorem cmp_flip (a b : ByteArray) : cmpOf b a = -cmpOf a b := Key.cmp_neg _ _
theorem cmp_same {a b : ByteArray} : cmpOf a b = 0 ↔ a = b := by
  unfold cmpOf
  rw [Key.cmp_zero]
  constructor
  · intro h
    have := congrArg List.toArray h
    simpa [ByteArray.ext_iff] using this
  · rintro rfl; rfl
theorem cmp_tr {a b c : ByteArray} (h1 : cmpOf a b ≤ 0) (h2 : cmpOf b c ≤ 0) : cmpOf a c ≤ 0 := Key.cmp_trans _ _ _ h1 h2
theorem cmp_lt_tr {a b c : ByteArray} (h1 : cmpOf a b < 0) (h2 : cmpOf b c ≤ 0) : cmpOf a c < 0 := by
  have h := cmp_tr (a := a) (b := b) (c := c) (by omega) h2
  by_cases e : cmpOf a c = 0
  · have := cmp_same.1 e
    subst this
    have := cmp_flip a b
    omega
  · omega
theorem cmp_le_lt {a b c : ByteArray} (h1 : cmpOf a b ≤ 0) (h2 : cmpOf b c < 0) : cmpOf a c < 0 := by
  have h := cmp_tr (a := a) (b := b) (c := c) h1 (by omega)
  by_cases e : cmpOf a c = 0
  · have := cmp_same.1 e
    subst this
    have := cmp_flip a b
    omega
  · omega

/-! ### keys that rise -/
def risAt (L : List ByteArray) (j : Nat) : Bool := decide (j = 0) || decide (cmpOf (nth L (j - 1)) (nth L j) < 0)
def risB (L : List ByteArray) (k : Nat) : Bool := (List.range k).all (risAt L)
theorem risB_zero (L : List ByteArray) : risB L 0 = true := rfl
theorem risB_one (L : List ByteArray) : risB L 1 = true := rfl
theorem risB_succ (L : List ByteArray) (k : Nat) : risB L (k + 1) = (risB L k && risAt L k) := by
  unfold risB
  rw [List.range_succ, List.all_append]
  simp
theorem risB_at {L : List ByteArray} {n k : Nat} (h : risB L n = true) (hk : k < n) : risAt L k = true :=
  List.all_eq_true.1 h k (List.mem_range.2 hk)
theorem risB_no {L : List ByteArray} {n k : Nat} (h : risAt L k = false) (hk : k < n) : risB L n = false := by
  cases he : risB L n with
  | false => rfl
  | true => rw [risB_at he hk] at h; cases h
theorem ris_next {L : List ByteArray} {n k : Nat} (h : risB L n = true) (hk : k + 1 < n) : cmpOf (nth L k) (nth L (k + 1)) < 0 := by
  have := risB_at h hk
  unfold risAt at this
  simpa using this
theorem ris_lt {L : List ByteArray} {n : Nat} (h : risB L n = true) : ∀ {j k : Nat}, j < k → k < n → cmpOf (nth L j) (nth L k) < 0 := by
  intro j k hjk hk
  induction k with
  | zero => omega
  | succ k ih =>
    have h1 := ris_next h hk
    by_cases e : j = k
    · subst e; exact h1
    · exact cmp_lt_tr (ih (by omega) (by omega)) (by omega)
theorem risB_mk {L : List ByteArray} {n : Nat} (h : ∀ k, k + 1 < n → cmpOf (nth L k) (nth L (k + 1)) < 0) : risB L n = true := by
  unfold risB
  refine List.all_eq_true.2 fun j hj => ?_
  have hj := List.mem_range.1 hj
  unfold risAt
  cases j with
  | zero => rfl
  | succ j => simpa using h j hj
/-- a page's rows rise, if they are rows, and their keys rise -/
theorem upB_ris {kind : Nat} {l : List ByteArray} {n : Nat} (hn : n ≤ l.length) (h : ∀ j, j < n → kB kind (nth l j) = true) : upB kind l n = risB (keysL kind l) n := by
  unfold upB risB
  rw [Bool.eq_iff_iff, List.all_eq_true, List.all_eq_true]
  refine forall_congr' fun j => ?_
  refine imp_congr_right fun hj => ?_
  have hj := List.mem_range.1 hj
  unfold okAt risAt
  rw [h j hj, Bool.true_and, nth_keys (by omega), nth_keys (by omega)]
theorem upB_bad {kind : Nat} {l : List ByteArray} {n j : Nat} (hj : j < n) (h : kB kind (nth l j) = false) : upB kind l n = false :=
  upB_no (k := j) (by unfold okAt; rw [h, Bool.false_and]) hj
theorem upB_kB {kind : Nat} {l : List ByteArray} {n j : Nat} (h : upB kind l n = true) (hj : j < n) : kB kind (nth l j) = true := by
  have := upB_at h hj
  unfold okAt at this
  exact (Bool.and_eq_true_iff.1 this).1

/-! ### what is found -/
theorem fnd_low {L : List ByteArray} {key : ByteArray} {j : Nat} (h : j < fndL L key) : cmpOf (nth L j) key < 0 := by
  have hl : j < L.length := Nat.lt_of_lt_of_le h (fnd_le L key)
  have := List.not_of_lt_findIdx h
  rw [Page.nth_elem hl] at this
  simp at this
  omega
theorem fnd_high {L : List ByteArray} {key : ByteArray} (h : fndL L key < L.length) : 0 ≤ cmpOf (nth L (fndL L key)) key := by
  have := List.findIdx_getElem (xs := L) (p := fun k => decide (0 ≤ cmpOf k key)) (w := h)
  have e : L[fndL L key] = nth L (fndL L key) := Page.nth_elem h
  rw [← e]
  exact of_decide_eq_true this
theorem fnd_up {L : List ByteArray} {key : ByteArray} (hr : risB L L.length = true) {j : Nat} (h : fndL L key ≤ j) (hj : j < L.length) : 0 ≤ cmpOf (nth L j) key := by
  have h0 := fnd_high (L := L) (key := key) (by omega)
  by_cases e : fndL L key = j
  · rw [← e]; exact h0
  · have h1 := ris_lt hr (show fndL L key < j by omega) hj
    have h2 := cmp_flip (nth L (fndL L key)) key
    have h3 := cmp_le_lt (a := key) (b := nth L (fndL L key)) (c := nth L j) (by omega) h1
    have := cmp_flip key (nth L j)
    omega
theorem fnd_above {L : List ByteArray} {key : ByteArray} (hr : risB L L.length = true) {j : Nat} (h : fndL L key < j) (hj : j < L.length) : 0 < cmpOf (nth L j) key := by
  have h0 := fnd_high (L := L) (key := key) (by omega)
  have h1 := ris_lt hr h hj
  have h2 := cmp_flip (nth L (fndL L key)) key
  have h3 := cmp_le_lt (a := key) (b := nth L (fndL L key)) (c := nth L j) (by omega) h1
  have := cmp_flip key (nth L j)
  omega
theorem last_of (L : List ByteArray) (key : ByteArray) : ∀ (k m : Nat), m < k → cmpOf (nth L m) key ≤ 0 → (∀ j, m < j → j < k → 0 < cmpOf (nth L j) key) → lastL L key k = m
  | 0, _, h, _, _ => by omega
  | k + 1, m, h, h1, h2 => by
    unfold lastL
    by_cases e : m = k
    · subst e; rw [if_pos h1]
    · have := h2 k (by omega) (by omega)
      rw [if_neg (by omega)]
      exact last_of L key k m (by omega) h1 fun j a b => h2 j a (by omega)
theorem last_none (L : List ByteArray) (key : ByteArray) : ∀ (k : Nat), (∀ j, j < k → 0 < cmpOf (nth L j) key) → lastL L key k = 0
  | 0, _ => rfl
  | k + 1, h => by
    unfold lastL
    have := h k (by omega)
    rw [if_neg (by omega)]
    exact last_none L key k fun j a => h j (by omega)
/-- the last key that is not behind it -/
theorem last_fnd {L : List ByteArray} {key : ByteArray} (hr : risB L L.length = true) (h0 : 0 < L.length) : lastL L key L.length = if hitL L key then fndL L key else fndL L key - 1 := by
  have hl := fnd_le L key
  by_cases hh : hitL L key = true
  · rw [if_pos hh]
    unfold hitL at hh
    simp only [Bool.and_eq_true, decide_eq_true_eq] at hh
    exact last_of L key _ _ hh.1 (by omega) fun j a b => fnd_above hr a b
  · rw [if_neg hh]
    by_cases e0 : fndL L key = 0
    · rw [e0]
      refine last_none L key _ fun j hj => ?_
      by_cases ej : j = 0
      · subst ej
        have h1 := fnd_high (L := L) (key := key) (by omega)
        rw [e0] at h1
        have h2 : cmpOf (nth L 0) key ≠ 0 := by
          intro e
          refine hh ?_
          unfold hitL
          rw [e0, decide_eq_true h0, decide_eq_true e]
          rfl
        omega
      · exact fnd_above hr (by omega) hj
    · refine last_of L key _ _ (by omega) (by have := fnd_low (L := L) (key := key) (j := fndL L key - 1) (by omega); omega) fun j a b => ?_
      by_cases ej : j = fndL L key
      · subst ej
        have h1 := fnd_high (L := L) (key := key) b
        have h2 : cmpOf (nth L (fndL L key)) key ≠ 0 := by
          intro e
          refine hh ?_
          unfold hitL
          rw [decide_eq_true b, decide_eq_true e]
          rfl
        omega
      · exact fnd_above hr (by omega) b

/-! ### where rows are cut -/
def fitB (l : List ByteArray) (k : Nat) : Bool := decide (used (l.take k) ≤ 484) && decide (used (l.drop k) ≤ 484)
/-- how far both parts' weights are -/
def dif (l : List ByteArray) (k : Nat) : Nat := if used (l.take k) < used (l.drop k) then used (l.drop k) - used (l.take k) else used (l.take k) - used (l.drop k)
/-- the best of the places 1 to k -/
def bst (l : List ByteArray) : Nat → Nat
  | 0 => 0
  | k + 1 => if fitB l (k + 1) && (decide (bst l k = 0) || decide (dif l (k + 1) < dif l (bst l k))) then k + 1 else bst l k
theorem bst_le (l : List ByteArray) : ∀ k, bst l k ≤ k
  | 0 => Nat.le_refl _
  | k + 1 => by
    unfold bst
    split
    · exact Nat.le_refl _
    · have := bst_le l k; omega
theorem bst_fit (l : List ByteArray) : ∀ k, bst l k ≠ 0 → fitB l (bst l k) = true
  | 0, h => absurd rfl h
  | k + 1, h => by
    unfold bst at h ⊢
    split
    · rename_i hc
      exact (Bool.and_eq_true_iff.1 hc).1
    · rename_i hc
      rw [if_neg hc] at h
      exact bst_fit l k h
theorem bst_some {l : List ByteArray} {j : Nat} (hj : 1 ≤ j) (hf : fitB l j = true) : ∀ k, j ≤ k → bst l k ≠ 0
  | 0, h => by omega
  | k + 1, h => by
    unfold bst
    by_cases e : j = k + 1
    · subst e
      by_cases h0 : bst l k = 0
      · rw [hf, decide_eq_true h0]; simp
      · split
        · omega
        · exact h0
    · have := bst_some hj hf k (by omega)
      split
      · omega
      · exact this
def cutN (l : List ByteArray) : Nat := bst l (l.length - 1)
theorem cut_lt {l : List ByteArray} (h : cutN l ≠ 0) : 1 ≤ cutN l ∧ cutN l < l.length := by
  have := bst_le l (l.length - 1)
  unfold cutN at *
  omega
def sepS (kind : Nat) (l : List ByteArray) (n : Nat) : ByteArray := if kind = 1 then between (nth (keysL kind l) (n - 1)) (nth (keysL kind l) n) else nth (keysL kind l) n
def splE (p : Pg) (x : Int) (t : ByteArray) (is : Bool) : Int := if putE p x t is = 0 then (if cutN (putR p x t is).rows = 0 then 2 else 0) else putE p x t is
def splA (p : Pg) (x : Int) (t : ByteArray) (is : Bool) : List ByteArray := if splE p x t is = 0 then (putR p x t is).rows.take (cutN (putR p x t is).rows) else []
def splB (p : Pg) (x : Int) (t : ByteArray) (is : Bool) : List ByteArray := if splE p x t is = 0 then (putR p x t is).rows.drop (cutN (putR p x t is).rows) else []
def splS (p : Pg) (x : Int) (t : ByteArray) (is : Bool) : ByteArray := if splE p x t is = 0 then sepS p.kind (putR p x t is).rows (cutN (putR p x t is).rows) else ⟨#[]⟩

/-! ### two pages as one -/
def mrgQ (p q : Pg) : Pg := { p with next := q.next, rows := p.rows ++ q.rows }
def mrgE (p q : Pg) : Int := if nodeB p && nodeB q then (if p.kind = q.kind ∧ p.level = q.level then (if keysB (mrgQ p q) then (if Page.mayP (mrgQ p q) then 0 else 4) else 7) else 2) else 7
def mrgR (p q : Pg) : Pg := if mrgE p q = 0 then mrgQ p q else Pg.zero

end Go.Proofs.YtbdbnpcbbebelaaDoor.Node

namespace Go.Proofs.YtbdbnpcbbebelaaDoor.Node
open Go.RowKit
open Go.Proofs.YtbdbnpcbbebelaaDoor.Page (Pg nth used pgV pgC)
open Go.Proofs.YtbdbnpcbbebelaaDoor.Key (cmpOf)
attribute [local go_sem ↓] Go.wp_at_zero Go.wp_at_succ

/-- whether a leaf, or an inner page, may be of this shape -/
def shB (p : Pg) : Bool := if p.kind = 1 then decide (p.level = 0) else decide (0 < p.level) && decide (0 < p.rows.length)
theorem head_shape {p : Pg} (hk : p.kind = 1 ∨ p.kind = 2) : headB p = shB p := by
  unfold headB shB
  rcases hk with h | h
  · rw [if_pos h, h]
    simp
  · rw [if_neg (by omega), h]
    have e1 : decide (1 ≤ p.level) = decide (0 < p.level) := rfl
    have e2 : decide (1 ≤ p.rows.length) = decide (0 < p.rows.length) := rfl
    rw [e1, e2]
    simp
theorem head_none {p : Pg} (hk : ¬ (p.kind = 1 ∨ p.kind = 2)) : headB p = false := by
  unfold headB
  rw [decide_eq_false (fun e => hk (.inl e)), decide_eq_false (fun e => hk (.inr e))]
  rfl

set_option maxRecDepth 100000 in
set_option maxHeartbeats 1000000 in
theorem shaped_any {w : World} {v : Value} (p : Pg) (h : Page.Rows w v p.rows) :
    Calls Tryd.prog 73 #[pgV p v] w fun e w' => e = .returned (.bool (shB p)) ∧ Below w.heap.size w w' := by
  obtain ⟨ad, c, rfl, _⟩ := id h
  have B := Lib.hid (fun o => below_new w o)
  have ES := Lib.hid (show shB p = if p.kind = 1 then decide (p.level = 0) else decide (0 < p.level) && decide (0 < p.rows.length) from rfl)
  generalize shB p = sb at *
  generalize p.rows.length = n at *
  unfold pgV
  clear h
  by_cases k1 : p.kind = 1
  · rw [if_pos k1] at ES
    have e1 : ((p.kind : Int) == 1) = true := by simp; omega
    clear k1
    by_cases hl : p.level = 0
    · have e2 : ((p.level : Int) == 0) = true := by simp; omega
      rw [decide_eq_true hl] at ES
      clear hl
      go_enter Tryd.func73, Tryd.ntmps73
      go_wp2_with fail
      go_ret
      exact ⟨by rw [ES.out]; rfl, B.out _⟩
    · have e2 : ((p.level : Int) == 0) = false := by simp; omega
      rw [decide_eq_false hl] at ES
      clear hl
      go_enter Tryd.func73, Tryd.ntmps73
      go_wp2_with fail
      go_ret
      exact ⟨by rw [ES.out]; rfl, B.out _⟩
  · rw [if_neg k1] at ES
    have e1 : ((p.kind : Int) == 1) = false := by simp; omega
    clear k1
    by_cases hl : 0 < p.level
    · rw [decide_eq_true hl, Bool.true_and] at ES
      by_cases hn : 0 < n
      · rw [decide_eq_true hn] at ES
        go_enter Tryd.func73, Tryd.ntmps73
        go_wp2_with fail
        go_ret
        exact ⟨by rw [ES.out]; rfl, B.out _⟩
      · rw [decide_eq_false hn] at ES
        obtain rfl : n = 0 := by omega
        go_enter Tryd.func73, Tryd.ntmps73
        go_wp2_with fail
        go_ret
        exact ⟨by rw [ES.out]; rfl, B.out _⟩
    · rw [decide_eq_false hl, Bool.false_and] at ES
      have hl0 : p.level = 0 := by omega
      generalize p.level = lv at *
      subst hl0
      clear hl
      go_enter Tryd.func73, Tryd.ntmps73
      go_wp2_with fail
      go_ret
      exact ⟨by rw [ES.out]; rfl, B.out _⟩

set_option maxRecDepth 100000 in
set_option maxHeartbeats 1000000 in
theorem isrow_any {w : World} {v : Value} (p : Pg) (x : Int) (h : Page.Rows w v p.rows) (_hn : p.rows.length ≤ 1000000) :
    Calls Tryd.prog 37 #[pgV p v, .int .i64 x] w fun e w' => e = .returned (.bool (decide (0 ≤ x ∧ x < p.rows.length))) ∧ Below w.heap.size w w' := by
  obtain ⟨ad, c, rfl, _⟩ := id h
  have B := Lib.hid (fun o => below_new w o)
  obtain ⟨b, hb⟩ : ∃ b, b = decide (0 ≤ x ∧ x < (p.rows.length : Int)) := ⟨_, rfl⟩
  rw [← hb]
  have EB := Lib.hid hb
  generalize p.rows.length = n at *
  unfold pgV
  clear h hb
  by_cases h0 : 0 ≤ x
  · by_cases h1 : x < (n : Int)
    · have e : b = true := by rw [EB.out]; exact decide_eq_true ⟨h0, h1⟩
      subst e
      clear EB
      go_enter Tryd.func37, Tryd.ntmps37
      go_wp2_with fail
      go_ret
      exact ⟨rfl, B.out _⟩
    · have e : b = false := by rw [EB.out]; exact decide_eq_false (fun h => h1 h.2)
      subst e
      clear EB
      have h2 : decide (x < (n : Int)) = false := decide_eq_false h1
      go_enter Tryd.func37, Tryd.ntmps37
      go_wp2_with fail
      go_ret
      exact ⟨rfl, B.out _⟩
  · have e : b = false := by rw [EB.out]; exact decide_eq_false (fun h => h0 h.1)
    subst e
    clear EB
    go_enter Tryd.func37, Tryd.ntmps37
    go_wp2_with fail
    go_ret
    exact ⟨rfl, B.out _⟩

set_option maxRecDepth 100000 in
set_option maxHeartbeats 1000000 in
theorem weight_any {w : World} {v : Value} {l : List ByteArray} (h : Page.Rows w v l) (hu : used l ≤ 1000000) :
    Calls Tryd.prog 44 #[v] w fun e w' => e = .returned (.int .i64 (used l : Int)) ∧ w = w' := by
  obtain ⟨ad, c, rfl, _⟩ := id h
  have H := Lib.hid h
  obtain ⟨n, hn⟩ : ∃ n, n = l.length := ⟨_, rfl⟩
  have N := Lib.hid hn
  have hn2 : n ≤ 250000 := by have := Page.used_len l; omega
  have U := Lib.hid hu
  rw [← hn]
  clear h hu hn
  go_enter Tryd.func44, Tryd.ntmps44
  go_wp2_with fail
  go_loop [3, 8] (fun x i => ∃ k m : Nat, k ≤ n ∧ m = used (l.take k) ∧ m ≤ 1000000 ∧ x = .int .i64 (m : Int) ∧ i = .int .i64 (k : Int)) (fun _ i => n - (intOf i).toNat)
  case atStart => exact ⟨0, 0, by omega, rfl, by omega, rfl, rfl⟩
  case round =>
    obtain ⟨k, m, hk, hm, hm2, rfl, rfl⟩ := hrel
    have HM := Lib.hid hm
    clear hm
    by_cases hlt : k < n
    · have hlt2 : k < l.length := by rw [← N.out]; exact hlt
      have hrw : Page.Rows w (.slice ad l.length c) l := by rw [← N.out]; have := H.out; rw [← N.out] at this; exact this
      obtain ⟨b, o, rfl, hb0, hc⟩ := hrw.at hlt2
      have t2 := Page.used_take hlt2
      have t3 := Page.used_take_le l (k + 1)
      obtain ⟨S, hS⟩ : ∃ S, S = nth l k := ⟨_, rfl⟩
      rw [← hS] at hc t2
      have hb1 : m + 4 + S.size ≤ 1000000 := by have := U.out; have := HM.out; omega
      have NX := Lib.hid (show m + 4 + S.size = used (l.take (k + 1)) by have := HM.out; omega)
      clear hrw t2 t3 hS hlt2 hb0
      go_wp2_with fail
      go_round
      case rel => exact ⟨k + 1, m + 4 + S.size, by omega, NX.out, hb1, by go_num, by go_num⟩
      case measure => simp [intOf]; omega
    · obtain rfl : k = n := by omega
      have e1 : used l = m := by
        rw [HM.out, List.take_of_length_le (by rw [← N.out]; exact Nat.le_refl _)]
      have E := Lib.hid e1
      clear e1
      go_wp2_with fail
      go_ret
      exact ⟨by rw [E.out]; rfl, rfl⟩

set_option maxRecDepth 100000 in
set_option maxHeartbeats 1000000 in
theorem small_any {w : World} {v : Value} (p : Pg) (h : Page.Rows w v p.rows) (hu : used p.rows ≤ 1000000) :
    Calls Tryd.prog 18 #[pgV p v] w fun e w' => e = .returned (.bool (decide (3 * (used p.rows : Int) < 488))) ∧ Below w.heap.size w w' := by
  obtain ⟨ad, c, rfl, _⟩ := id h
  have B := Lib.hid (below_new w (.cells (pgC p (.slice ad p.rows.length c)) 26))
  have K := Lib.hid (weight_any (h.alloc (.cells (pgC p (.slice ad p.rows.length c)) 26)) hu)
  generalize used p.rows = u at *
  generalize p.rows.length = n at *
  unfold pgV pgC at *
  clear h
  go_enter Tryd.func18, Tryd.ntmps18
  go_wp2_with fail
  refine (K.out).mono ?_
  rintro e w1 ⟨rfl, rfl⟩
  go_wp2_with fail
  go_ret
  exact ⟨rfl, B.out⟩

set_option maxRecDepth 100000 in
set_option maxHeartbeats 2000000 in
theorem rising_any {w : World} {v : Value} {L : List ByteArray} (h : Page.Rows w v L) (hl : L.length ≤ 1000000) :
    Calls Tryd.prog 55 #[v] w fun e w' => e = .returned (.bool (risB L L.length)) ∧ Below w.heap.size w w' := by
  obtain ⟨ad, c, rfl, _⟩ := id h
  have H := Lib.hid h
  obtain ⟨n, hn⟩ : ∃ n, n = L.length := ⟨_, rfl⟩
  have N := Lib.hid hn
  have hn2 : n ≤ 1000000 := by omega
  rw [← hn]
  have NO := Lib.hid (fun (k : Nat) (hk : k < n) (ho : risAt L k = false) => risB_no ho hk)
  clear h hl hn
  go_enter Tryd.func55, Tryd.ntmps55
  go_wp2_with fail
  go_loopw [3] (fun i wr => ∃ k : Nat, 1 ≤ k ∧ (k ≤ n ∨ k = 1) ∧ i = .int .i64 (k : Int) ∧ Below w.heap.size w wr ∧ risB L k = true) (fun i _ => n - (intOf i).toNat)
  case atStart => exact ⟨1, by omega, by omega, by go_num, Below.refl _ _, risB_one L⟩
  case round =>
    obtain ⟨k, hk1, hk2, rfl, hb, hr⟩ := hrel
    have HB := Lib.hid hb
    have HR := Lib.hid hr
    clear hb hr
    by_cases hlt : k < n
    · have hrw : Page.Rows wr (.slice ad L.length c) L := by rw [← N.out]; have := H.out.later HB.out; rw [← N.out] at this; exact this
      obtain ⟨j, rfl⟩ : ∃ j, k = j + 1 := ⟨k - 1, by omega⟩
      obtain ⟨b, o, rfl, _, d1⟩ := hrw.at (k := j) (by rw [← N.out]; omega)
      obtain ⟨b', o', e, _, d2⟩ := hrw.at (k := j + 1) (by rw [← N.out]; omega)
      cases e
      have AT := Lib.hid (show risAt L (j + 1) = decide (cmpOf (nth L j) (nth L (j + 1)) < 0) by unfold risAt; simp)
      generalize nth L j = s1 at *
      generalize nth L (j + 1) = s2 at *
      have KC := Lib.hid (fun W => (show Calls Tryd.prog 63 #[.string s1, .string s2] W fun e w' => e = .returned (.int .i64 (cmpOf s1 s2)) ∧ w' = W from (Key.compare_any s1 s2 W).mono fun _ _ h => ⟨h.1, h.2.symm⟩))
      generalize cmpOf s1 s2 = cm at *
      have e1 : ((j + 1 : Nat) : Int) = (j : Int) + 1 := by omega
      have e2 : o + (j + 1) = o + j + 1 := by omega
      rw [e2] at d2
      clear hrw e2
      have q1 : IntKind.i64.wrap (j : Int) = (j : Int) := IntWalk.i64_in _ (by omega)
      have q2 : (0 : Int) ≤ (j : Int) + 1 := by omega
      have q3 : ((j : Int) + 1).toNat = j + 1 := by omega
      have q4 : (j : Int) < (n : Int) := by omega
      have q5 : (j : Int) + 1 < (n : Int) := by omega
      have q6 : o + (j + 1) = o + j + 1 := by omega
      by_cases hc : 0 ≤ cm
      · have HN := Lib.hid (NO.out (j + 1) hlt (by rw [AT.out]; exact decide_eq_false (by omega)))
        clear NO AT
        go_wp2_with fail
        go_quiet ((go_at_call 63; exact Calls.quiet_of_same (KC.out _)))
        go_wp2_with fail
        go_ret
        exact ⟨by rw [HN.out]; rfl, Key.below_drewN' HB.out _⟩
      · have HR2 := Lib.hid (show risB L (j + 1 + 1) = true by rw [risB_succ, HR.out, AT.out, decide_eq_true (by omega)]; rfl)
        clear NO AT
        go_wp2_with fail
        go_quiet ((go_at_call 63; exact Calls.quiet_of_same (KC.out _)))
        go_wp2_with fail
        go_roundw
        clear q1 q2 q3 q6
        case rel => exact ⟨j + 1 + 1, by omega, by omega, by go_num, Key.below_drewN' HB.out _, HR2.out⟩
        case measure => simp [intOf]; omega
    · have HR2 := Lib.hid (show risB L n = true by
        rcases hk2 with h | h
        · obtain rfl : k = n := by omega
          exact HR.out
        · subst h
          rcases Nat.eq_zero_or_pos n with h0 | h0
          · rw [h0]; rfl
          · obtain rfl : n = 1 := by omega
            rfl)
      clear NO
      go_wp2_with fail
      go_ret
      exact ⟨by rw [HR2.out]; rfl, HB.out⟩

end Go.Proofs.YtbdbnpcbbebelaaDoor.Node

namespace Go.Proofs.YtbdbnpcbbebelaaDoor.Node
open Go.RowKit
open Go.Proofs.YtbdbnpcbbebelaaDoor.Page (Pg nth used pgV pgC)
open Go.Proofs.YtbdbnpcbbebelaaDoor.Row (decR decN okR okE decE decF rwC rwV enV enC)
open Go.Proofs.YtbdbnpcbbebelaaDoor.Key (cmpOf)
attribute [local go_sem ↓] Go.wp_at_zero Go.wp_at_succ

/-! ### the map of readers -/
theorem run_ins {w : World} {b cl : Nat} {es : Array MapEntry} (h : w.heap[b]? = some (.map es cl)) (k : Int) (val : Value) (hk : (Lit.int .u8 k).wf = true) (hf : Instr.findNow (.int .u8) (.int .u8 k) es.toList 0 = some none) :
    (Instr.mapUpdate 111 (.map (some b)) (.int .u8 k) val).run Tryd.prog w = .ok () (ChangeMaps.setBlock w b (.map (es.push ⟨.int .u8 k, val, cl⟩) (cl + 1))) := by
  have hu := run_underlying Tryd.underlying111 (w := w)
  have hu5 := run_underlying Tryd.underlying5 (w := w)
  have hc := fun c => (Maps.int_keyed Tryd.underlying5).check w c (Go.Maps.keyOf_int_mk Tryd.underlying5 hk)
  simp [Instr.mapUpdate, hu, MapKept.run_getObj_map h, hc, Instr.findKey, hu5, hf, MapKept.run_setObj_map _ h, Result.andThen, ChangeMaps.setBlock]
theorem run_look {w : World} {b cl : Nat} {es : Array MapEntry} (h : w.heap[b]? = some (.map es cl)) (k : Int) (j : Nat) (val : Value) (hk : (Lit.int .u8 k).wf = true) (hf : Instr.findNow (.int .u8) (.int .u8 k) es.toList 0 = some (some (j, val))) :
    (Instr.lookup 111 (.map (some b)) (.int .u8 k) true).run Tryd.prog w = .ok (.tuple #[val, .bool true]) w := by
  have hu := run_underlying Tryd.underlying111 (w := w)
  have hu5 := run_underlying Tryd.underlying5 (w := w)
  have hc := fun c => (Maps.int_keyed Tryd.underlying5).check w c (Go.Maps.keyOf_int_mk Tryd.underlying5 hk)
  simp [Instr.lookup, hu, MapKept.run_getObj_map h, hc, Instr.findKey, hu5, hf, Result.andThen]
theorem run_look_no {w : World} {b cl : Nat} {es : Array MapEntry} (h : w.heap[b]? = some (.map es cl)) (k : Int) (hk : (Lit.int .u8 k).wf = true) (hf : Instr.findNow (.int .u8) (.int .u8 k) es.toList 0 = some none) :
    (Instr.lookup 111 (.map (some b)) (.int .u8 k) true).run Tryd.prog w = .ok (.tuple #[.nilFunc, .bool false]) w := by
  have hu := run_underlying Tryd.underlying111 (w := w)
  have hu5 := run_underlying Tryd.underlying5 (w := w)
  have hc := fun c => (Maps.int_keyed Tryd.underlying5).check w c (Go.Maps.keyOf_int_mk Tryd.underlying5 hk)
  have hz := fun W => (show (zeroValue (109)).run Tryd.prog W = .ok .nilFunc W by kernel_rfl)
  simp [Instr.lookup, hu, MapKept.run_getObj_map h, hc, Instr.findKey, hu5, hf, hz, Result.andThen]

/-- both readers -/
def rdA : Value := .func (.func 80) #[] #[]
def rdB : Value := .func (.func 82) #[] #[]
def readE : Array MapEntry := #[⟨.int .u8 1, rdA, 0⟩, ⟨.int .u8 2, rdB, 1⟩]
structure Rds (w : World) (b : Nat) : Prop where
  map : w.heap[b]? = some (.map readE 2)
theorem Rds.a {w : World} {b k : Nat} (h : Rds w b) (hk : k = 1) : (Instr.lookup 111 (.map (some b)) (.int .u8 (k : Int)) true).run Tryd.prog w = .ok (.tuple #[rdA, .bool true]) w := by
  subst hk
  exact run_look h.map _ 0 _ (by decide) (by rfl)
theorem Rds.b {w : World} {b k : Nat} (h : Rds w b) (hk : k = 2) : (Instr.lookup 111 (.map (some b)) (.int .u8 (k : Int)) true).run Tryd.prog w = .ok (.tuple #[rdB, .bool true]) w := by
  subst hk
  exact run_look h.map _ 1 _ (by decide) (by rfl)
theorem Rds.no {w : World} {b k : Nat} (h : Rds w b) (h1 : k ≠ 1) (h2 : k ≠ 2) (hk : k < 256) : (Instr.lookup 111 (.map (some b)) (.int .u8 (k : Int)) true).run Tryd.prog w = .ok (.tuple #[.nilFunc, .bool false]) w := by
  refine run_look_no h.map _ (WalkArith.wf_u8 (by omega)) ?_
  have e1 : ((k : Int) == 1) = false := by simp; omega
  have e2 : ((k : Int) == 2) = false := by simp; omega
  simp [readE, Instr.findNow, Instr.sameNow, e1, e2]

theorem below_setBlock {W0 w : World} {b : Nat} {o : Obj} (h : Below W0.heap.size W0 w) (hb : W0.heap.size ≤ b) : Below W0.heap.size W0 (ChangeMaps.setBlock w b o) :=
  ⟨h.os, h.tape, h.output, by simpa [ChangeMaps.setBlock] using h.size, fun x hx => by
    have : (ChangeMaps.setBlock w b o).heap[x]? = w.heap[x]? := by
      simp only [ChangeMaps.setBlock]
      rw [Array.getElem?_setIfInBounds_ne (by omega)]
    rw [this]
    exact h.block x hx⟩

set_option maxRecDepth 100000 in
set_option maxHeartbeats 1000000 in
theorem readers_any (w : World) : Calls Tryd.prog 72 #[] w fun e w' => ∃ b, e = .returned (.map (some b)) ∧ Rds w' b ∧ Below w.heap.size w w' := by
  have hmm := @run_makeMap Tryd.prog
  have n0 : (w.alloc (.map #[] 0)).heap[w.heap.size]? = some (.map #[] 0) := heap_alloc_new w _
  have i1 := run_ins n0 1 rdA (by decide) rfl
  have n1 := ChangeMaps.heap_setBlock_same n0 (.map (#[].push ⟨.int .u8 1, rdA, 0⟩) (0 + 1))
  have i2 := run_ins n1 2 rdB (by decide) rfl
  have n2 := ChangeMaps.heap_setBlock_same n1 (.map ((#[].push ⟨.int .u8 1, rdA, 0⟩).push ⟨.int .u8 2, rdB, 0 + 1⟩) (0 + 1 + 1))
  have B := Lib.hid (below_setBlock (below_setBlock (below_new w (.map #[] 0)) (Nat.le_refl _) (o := .map (#[].push ⟨.int .u8 1, rdA, 0⟩) (0 + 1))) (Nat.le_refl _) (o := .map ((#[].push ⟨.int .u8 1, rdA, 0⟩).push ⟨.int .u8 2, rdB, 0 + 1⟩) (0 + 1 + 1)))
  have N2 := Lib.hid (show Rds _ _ from ⟨n2⟩)
  clear n0 n1 n2
  generalize ChangeMaps.setBlock (ChangeMaps.setBlock _ _ _) _ _ = W2 at *
  generalize ChangeMaps.setBlock _ _ _ = W1 at *
  unfold rdA rdB at *
  go_enter Tryd.func72, Tryd.ntmps72
  go_wp2_with fail
  go_ret
  exact ⟨_, rfl, N2.out, B.out⟩

/-! ### a row's key -/
def kE (kind : Nat) (s : ByteArray) : Int := if kind = 1 then decE s else decF s
theorem kE_zero (kind : Nat) (s : ByteArray) : (kE kind s != 0) = !kB kind s := by
  unfold kE kB
  split
  · rw [bne, dec_zero]
  · rw [bne, ent_zero]

set_option maxRecDepth 100000 in
set_option maxHeartbeats 1000000 in
theorem keya_any (s : ByteArray) (w : World) (hs : s.size ≤ 140737488351232) :
    Calls Tryd.prog 80 #[.string s] w fun e w' => e = .returned (.tuple #[.string (decR s).key, .int .i64 (decE s)]) ∧ Below w.heap.size w w' := by
  have K := Lib.hid (fun W => Row.decode_any s W hs)
  clear hs
  generalize decR s = r at *
  generalize decE s = c at *
  unfold rwV rwC at *
  go_enter Tryd.func80, Tryd.ntmps80
  go_wp2_with fail
  refine (K.out _).mono ?_
  rintro e w1 ⟨rfl, b1⟩
  have B := Lib.hid (b1.trans ((below_new w1 (.cells (rwC r) 68)).mono b1.size))
  clear b1 K
  unfold rwC at B
  go_wp2_with fail
  go_ret2
  exact ⟨rfl, B.out⟩
set_option maxRecDepth 100000 in
set_option maxHeartbeats 1000000 in
theorem keyb_any (s : ByteArray) (w : World) (hs : s.size ≤ 140737488351232) :
    Calls Tryd.prog 82 #[.string s] w fun e w' => e = .returned (.tuple #[.string (decN s).key, .int .i64 (decF s)]) ∧ Below w.heap.size w w' := by
  have K := Lib.hid (fun W => (show Calls Tryd.prog 41 #[.string s] W fun e w' => e = .returned (.tuple #[enV (decN s), .int .i64 (decF s)]) ∧ Below W.heap.size W w' from Row.dece_any s W hs))
  clear hs
  generalize decN s = r at *
  generalize decF s = c at *
  unfold enV enC at *
  go_enter Tryd.func82, Tryd.ntmps82
  go_wp2_with fail
  refine (K.out _).mono ?_
  rintro e w1 ⟨rfl, b1⟩
  have B := Lib.hid (b1.trans ((below_new w1 (.cells (enC r) 73)).mono b1.size))
  clear b1 K
  unfold enC at B
  go_wp2_with fail
  go_ret2
  exact ⟨rfl, B.out⟩

end Go.Proofs.YtbdbnpcbbebelaaDoor.Node

namespace Go.Proofs.YtbdbnpcbbebelaaDoor.Node
open Go.RowKit
open Go.Proofs.YtbdbnpcbbebelaaDoor.Page (Pg nth used pgV pgC)
open Go.Proofs.YtbdbnpcbbebelaaDoor.Row (decR decN okR okE decE decF)
open Go.Proofs.YtbdbnpcbbebelaaDoor.Key (cmpOf)
attribute [local go_sem ↓] Go.wp_at_zero Go.wp_at_succ

/-- one reader -/
structure Reads (kind : Nat) (F : FuncId) : Prop where
  val : (kind = 1 ∧ F = 80) ∨ (kind = 2 ∧ F = 82)
theorem Reads.run {kind : Nat} {F : FuncId} (h : Reads kind F) {W : World} {b : Nat} (r : Rds W b) : (Instr.lookup 111 (.map (some b)) (.int .u8 (kind : Int)) true).run Tryd.prog W = .ok (.tuple #[.func (.func F) #[] #[], .bool true]) W := by
  rcases h.val with ⟨e1, rfl⟩ | ⟨e1, rfl⟩
  · exact r.a e1
  · exact r.b e1
set_option maxRecDepth 100000 in
theorem enters_a (args : Array Value) (w : World) : Sem.run Tryd.prog (callFunc 80 args) w = .ok (.enter 80 args) w := by kernel_rfl
set_option maxRecDepth 100000 in
theorem enters_b (args : Array Value) (w : World) : Sem.run Tryd.prog (callFunc 82 args) w = .ok (.enter 82 args) w := by kernel_rfl
theorem Reads.enters {kind : Nat} {F : FuncId} (h : Reads kind F) (args : Array Value) (w : World) : Sem.run Tryd.prog (callFunc F args) w = .ok (.enter F args) w := by
  rcases h.val with ⟨rfl, rfl⟩ | ⟨rfl, rfl⟩
  · exact enters_a args w
  · exact enters_b args w
theorem Reads.call {kind : Nat} {F : FuncId} (h : Reads kind F) (s : ByteArray) (W : World) (hs : s.size ≤ 140737488351232) : Calls Tryd.prog F #[.string s] W fun e w' => e = .returned (.tuple #[.string (kS kind s), .int .i64 (kE kind s)]) ∧ Below W.heap.size W w' := by
  rcases h.val with ⟨rfl, rfl⟩ | ⟨rfl, rfl⟩
  · exact keya_any s W hs
  · exact keyb_any s W hs

set_option maxRecDepth 100000 in
set_option maxHeartbeats 2000000 in
/-- a page of another kind, or of another shape -/
theorem keys_bad {w : World} {v : Value} (p : Pg) (h : Page.Rows w v p.rows) (hk : p.kind < 256) (hb : headB p = false) :
    Calls Tryd.prog 60 #[pgV p v] w (KeysP p w) := by
  have NO := Lib.hid (fun (w' : World) (b : Below w.heap.size w w') => KeysP.no (p := p) (show keysB p = false by unfold keysB; rw [hb, Bool.false_and]) b)
  have T0 := Lib.hid (Pb.start h)
  have K2 := Lib.hid (fun (W : World) (t : Pb w W w.heap.size p v) => shaped_any p t.rows)
  obtain ⟨ad, c, rfl, _⟩ := id h
  clear h
  generalize p.rows.length = n at *
  unfold pgV pgC at *
  by_cases hk2 : p.kind = 1 ∨ p.kind = 2
  · obtain ⟨F, hF⟩ : ∃ F, Reads p.kind F := by
      rcases hk2 with e | e
      · exact ⟨_, ⟨.inl ⟨e, rfl⟩⟩⟩
      · exact ⟨_, ⟨.inr ⟨e, rfl⟩⟩⟩
    have HF := Lib.hid hF
    have hs : shB p = false := by rw [← head_shape hk2]; exact hb
    rw [hs] at K2
    clear hF hk2 hb hs
    go_enter Tryd.func60, Tryd.ntmps60
    go_upto_region 1 with fail
    generalize w.alloc _ = W1 at *
    obtain ⟨g, hg⟩ : ∃ g, g = w.heap.size := ⟨_, rfl⟩
    rw [← hg] at T0 K2 ⊢
    clear hg
    have P0 := Lib.hid (T0.out.later ((Below.refl _ _).drew))
    clear T0
    go_region_held3 (fun w' => w'.cell? ⟨g, 0, none⟩ = some (.int .u8 (p.kind : Int))) (first | exact P0.out.six.1 | exact P1.six.1)
      (first | (go_at_call 72; refine (readers_any _).mono ?_; rintro e w2 ⟨b, rfl, rd, b2⟩; have P1 := P0.out.later b2; have lk := HF.out.run rd))
    have P2 := Lib.hid P1
    clear P1 P0 lk rd b2
    obtain ⟨a0, a1, a2, a3, a4, a5⟩ := P2.out.six
    go_wp2_with fail
    refine (K2.out _ P2.out).mono ?_
    rintro e w3 ⟨rfl, b3⟩
    have P3 := Lib.hid (P2.out.later b3).below
    clear P2 b3 K2 a0 a1 a2 a3 a4 a5
    go_wp2_with fail
    go_ret2
    exact NO.out _ P3.out
  · have HK := Lib.hid (show p.kind ≠ 1 ∧ p.kind ≠ 2 by omega)
    have HK2 := Lib.hid hk
    clear hk2 hb K2 hk
    go_enter Tryd.func60, Tryd.ntmps60
    go_upto_region 1 with fail
    generalize w.alloc _ = W1 at *
    obtain ⟨g, hg⟩ : ∃ g, g = w.heap.size := ⟨_, rfl⟩
    rw [← hg] at T0 ⊢
    clear hg
    have P0 := Lib.hid (T0.out.later ((Below.refl _ _).drew))
    clear T0
    go_region_held3 (fun w' => w'.cell? ⟨g, 0, none⟩ = some (.int .u8 (p.kind : Int))) (first | exact P0.out.six.1 | exact P1.six.1)
      (first | (go_at_call 72; refine (readers_any _).mono ?_; rintro e w2 ⟨b, rfl, rd, b2⟩; have P1 := P0.out.later b2; have lk := rd.no HK.out.1 HK.out.2 HK2.out))
    have P3 := Lib.hid P1.below
    clear P1 P0 lk rd b2
    go_wp2_with fail
    go_ret2
    exact NO.out _ P3.out

end Go.Proofs.YtbdbnpcbbebelaaDoor.Node
