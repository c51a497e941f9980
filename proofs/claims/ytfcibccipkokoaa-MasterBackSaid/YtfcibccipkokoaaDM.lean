/- The disk's plain mathematics: what a disk is, what each call makes of it. -/
import Derived.Lib.UnsafeStr
namespace Go.Proofs.Ytfcibccipkokoaa.Disk
open Go

/-- what a disk is: the sectors that are sure, the writes that are loose, the fuse (-1: none) -/
structure D where
  sure : List (List UInt8)
  loose : List (Nat × List UInt8)
  fuse : Int

def settle (s : List (List UInt8)) (x : Nat × List UInt8) : List (List UInt8) := s.set x.1 x.2
def settleAll (s : List (List UInt8)) (l : List (Nat × List UInt8)) : List (List UInt8) := l.foldl settle s
/-- which of the writes is the newest one of a sector -/
def newest : List (Nat × List UInt8) → Nat → Option Nat
  | [], _ => none
  | x :: r, k => match newest r k with
    | some i => some (i + 1)
    | none => if x.1 = k then some 0 else none
/-- the writes that a crash keeps -/
def kept : List (Nat × List UInt8) → List Bool → List (Nat × List UInt8)
  | [], _ => []
  | _ :: _, [] => []
  | x :: r, b :: bs => if b then x :: kept r bs else kept r bs

structure D.ok (d : D) : Prop where
  one : 1 ≤ d.sure.length
  most : d.sure.length ≤ 16384
  each : ∀ t ∈ d.sure, t.length = 128
  there : ∀ x ∈ d.loose, x.1 < d.sure.length ∧ x.2.length = 128
  low : -1 ≤ d.fuse
  high : d.fuse ≤ 9223372036854775807

/-- what a sector has -/
def now (d : D) (k : Nat) : List UInt8 := match newest d.loose k with
  | some i => (d.loose.getD i (0, [])).2
  | none => d.sure.getD k []
/-- a call that the fuse counts -/
def burnt (f : Int) : Int := if 0 < f then f - 1 else f
def D.write (d : D) (k : Nat) (t : List UInt8) : D := ⟨d.sure, d.loose ++ [(k, t)], burnt d.fuse⟩
def D.sync (d : D) : D := ⟨settleAll d.sure d.loose, [], burnt d.fuse⟩
def D.crash (d : D) (keep : List Bool) : D := ⟨settleAll d.sure (kept d.loose keep), [], -1⟩
def D.setFuse (d : D) (n : Int) : D := ⟨d.sure, d.loose, n⟩
/-- a sector of one byte -/
def fullL (c : UInt8) : List UInt8 := List.replicate 128 c
theorem fullL_len (c : UInt8) : (fullL c).length = 128 := List.length_replicate
def D.new (n : Nat) : D := ⟨List.replicate n (fullL 0), [], -1⟩

/-! ### lists whose parts have one length -/
section
variable {α β : Type} {f : α → List β} {m : Nat}
theorem fm_len : ∀ (l : List α), (∀ x ∈ l, (f x).length = m) → (l.flatMap f).length = l.length * m
  | [], _ => by simp
  | x :: r, h => by
    rw [List.flatMap_cons, List.length_append, fm_len r (fun y hy => h y (by simp [hy])), h x (by simp), List.length_cons, Nat.add_mul]
    omega
theorem fm_get : ∀ (l : List α), (∀ x ∈ l, (f x).length = m) → ∀ (k : Nat) (x : α), l[k]? = some x → ∀ j, j < m → (l.flatMap f)[k * m + j]? = (f x)[j]?
  | [], _, k, x, hk, _, _ => by simp at hk
  | y :: r, h, 0, x, hk, j, hj => by
    simp at hk
    subst hk
    rw [List.flatMap_cons, List.getElem?_append_left (by rw [h y (by simp)]; omega)]
    simp
  | y :: r, h, k + 1, x, hk, j, hj => by
    have hy := h y (by simp)
    rw [List.flatMap_cons, List.getElem?_append_right (by rw [hy, Nat.add_mul]; omega), hy]
    have e : (k + 1) * m + j - m = k * m + j := by rw [Nat.add_mul]; omega
    rw [e]
    exact fm_get r (fun z hz => h z (by simp [hz])) k x (by simpa using hk) j hj
theorem fm_set : ∀ (l : List α), (∀ x ∈ l, (f x).length = m) → ∀ (k : Nat), k < l.length → ∀ x, (l.flatMap f).take (k * m) ++ f x ++ (l.flatMap f).drop (k * m + m) = (l.set k x).flatMap f
  | [], _, k, hk, _ => by simp at hk
  | y :: r, h, 0, _, x => by
    have hy := h y (by simp)
    have e : 0 * m + m = (f y).length := by omega
    rw [e, List.flatMap_cons, List.drop_left]
    simp
  | y :: r, h, k + 1, hk, x => by
    have hy := h y (by simp)
    have ih := fm_set r (fun z hz => h z (by simp [hz])) k (by simpa using hk) x
    have e1 : (k + 1) * m = (f y).length + k * m := by rw [hy, Nat.add_mul]; omega
    rw [e1, List.flatMap_cons, List.take_length_add_append, Nat.add_assoc, List.drop_length_add_append, List.set_cons_succ, List.flatMap_cons, ← ih]
    simp
end

/-- the cells of sectors; of a write; of writes -/
def flat (ss : List (List UInt8)) : List Value := ss.flatMap Lib.byteCells
def cellsW (x : Nat × List UInt8) : List Value := .int .i64 (x.1 : Int) :: Lib.byteCells x.2
def flatW (l : List (Nat × List UInt8)) : List Value := l.flatMap cellsW

theorem byteCells_len (l : List UInt8) : (Lib.byteCells l).length = l.length := by simp [Lib.byteCells]
theorem byteCells_one (l : List UInt8) : ∀ v ∈ Lib.byteCells l, v.oneCell' = true := by
  intro v hv
  simp [Lib.byteCells] at hv
  obtain ⟨b, _, rfl⟩ := hv
  rfl
theorem cellsW_len {x : Nat × List UInt8} (h : x.2.length = 128) : (cellsW x).length = 129 := by simp [cellsW, byteCells_len, h]
theorem cellsW_one (x : Nat × List UInt8) : ∀ v ∈ cellsW x, v.oneCell' = true := by
  intro v hv
  simp only [cellsW, List.mem_cons] at hv
  rcases hv with rfl | hv
  · rfl
  · exact byteCells_one _ v hv
theorem flat_len {ss : List (List UInt8)} (h : ∀ t ∈ ss, t.length = 128) : (flat ss).length = ss.length * 128 := fm_len ss (fun x hx => by rw [byteCells_len]; exact h x hx)
theorem flatW_len {l : List (Nat × List UInt8)} (h : ∀ x ∈ l, x.2.length = 128) : (flatW l).length = l.length * 129 := fm_len l (fun x hx => cellsW_len (h x hx))
theorem flat_get {ss : List (List UInt8)} (h : ∀ t ∈ ss, t.length = 128) {k : Nat} {t : List UInt8} (hk : ss[k]? = some t) {j : Nat} (hj : j < 128) : (flat ss)[k * 128 + j]? = (Lib.byteCells t)[j]? :=
  fm_get ss (fun x hx => by rw [byteCells_len]; exact h x hx) k t hk j hj
theorem flatW_get {l : List (Nat × List UInt8)} (h : ∀ x ∈ l, x.2.length = 128) {k : Nat} {x : Nat × List UInt8} (hk : l[k]? = some x) {j : Nat} (hj : j < 129) : (flatW l)[k * 129 + j]? = (cellsW x)[j]? :=
  fm_get l (fun x hx => cellsW_len (h x hx)) k x hk j hj
theorem flat_set {ss : List (List UInt8)} (h : ∀ t ∈ ss, t.length = 128) {k : Nat} (hk : k < ss.length) (t : List UInt8) : (flat ss).take (k * 128) ++ Lib.byteCells t ++ (flat ss).drop (k * 128 + 128) = flat (ss.set k t) :=
  fm_set ss (fun x hx => by rw [byteCells_len]; exact h x hx) k hk t
theorem flatW_snoc (l : List (Nat × List UInt8)) (x : Nat × List UInt8) : flatW (l ++ [x]) = flatW l ++ cellsW x := by simp [flatW, List.flatMap_append]
theorem flat_snoc (l : List (List UInt8)) (x : List UInt8) : flat (l ++ [x]) = flat l ++ Lib.byteCells x := by simp [flat, List.flatMap_append]
theorem flat_eq (l : List (List UInt8)) : flat l = Lib.byteCells l.flatten := by
  induction l with
  | nil => rfl
  | cons x r ih => simp [flat, Lib.byteCells] at *; rw [← ih]

/-! ### what is newest, what is kept -/
theorem newest_snoc (k' : Nat) (t : List UInt8) (k : Nat) : ∀ l, newest (l ++ [(k', t)]) k = if k' = k then some l.length else newest l k
  | [] => by by_cases h : k' = k <;> simp [newest, h]
  | x :: r => by
    rw [List.cons_append]
    by_cases h : k' = k
    · subst h
      have := newest_snoc k' t k' r
      rw [if_pos rfl] at this
      simp [newest, this]
    · have := newest_snoc k' t k r
      rw [if_neg h] at this
      simp [newest, this, h]
theorem newest_lt (k : Nat) : ∀ l i, newest l k = some i → i < l.length
  | [], i, h => by simp [newest] at h
  | x :: r, i, h => by
    simp only [newest] at h
    split at h
    · rename_i j hj
      have := newest_lt k r j hj
      simp at h
      simp; omega
    · split at h
      · simp at h; subst h; simp
      · simp at h
theorem newest_at (k : Nat) : ∀ l i, newest l k = some i → ∃ t, l[i]? = some (k, t)
  | [], i, h => by simp [newest] at h
  | x :: r, i, h => by
    simp only [newest] at h
    split at h
    · rename_i j hj
      obtain ⟨t, ht⟩ := newest_at k r j hj
      simp at h
      subst h
      exact ⟨t, by simpa using ht⟩
    · split at h
      · rename_i hx
        simp at h; subst h
        exact ⟨x.2, by simp [← hx]⟩
      · simp at h

theorem settle_len (s : List (List UInt8)) (x : Nat × List UInt8) : (settle s x).length = s.length := by simp [settle]
theorem settleAll_len (l : List (Nat × List UInt8)) : ∀ s, (settleAll s l).length = s.length := by
  induction l with
  | nil => intro s; rfl
  | cons x r ih => intro s; show (settleAll (settle s x) r).length = _; rw [ih, settle_len]
theorem settleAll_snoc (s : List (List UInt8)) (l : List (Nat × List UInt8)) (x : Nat × List UInt8) : settleAll s (l ++ [x]) = settle (settleAll s l) x := by simp [settleAll, List.foldl_append]
theorem settle_each {s : List (List UInt8)} {x : Nat × List UInt8} (h : ∀ t ∈ s, t.length = 128) (hx : x.2.length = 128) : ∀ t ∈ settle s x, t.length = 128 := by
  intro t ht
  rcases List.mem_or_eq_of_mem_set ht with h1 | h1
  · exact h t h1
  · rw [h1]; exact hx
theorem settleAll_each : ∀ (l : List (Nat × List UInt8)) (s : List (List UInt8)), (∀ t ∈ s, t.length = 128) → (∀ x ∈ l, x.2.length = 128) → ∀ t ∈ settleAll s l, t.length = 128
  | [], s, h, _ => h
  | x :: r, s, h, hl => settleAll_each r (settle s x) (settle_each h (hl x (by simp))) (fun y hy => hl y (by simp [hy]))

theorem kept_take (i : Nat) : ∀ (l : List (Nat × List UInt8)) (keep : List Bool) (x : Nat × List UInt8), l[i]? = some x →
    kept (l.take (i + 1)) keep = if keep[i]? = some true then kept (l.take i) keep ++ [x] else kept (l.take i) keep := by
  induction i with
  | zero =>
    intro l keep x hx
    match l, keep, hx with
    | y :: r, [], hx => simp [kept]
    | y :: r, b :: bs, hx =>
      simp at hx
      subst hx
      cases b <;> simp [kept]
  | succ i ih =>
    intro l keep x hx
    match l, keep, hx with
    | y :: r, [], hx => simp [kept]
    | y :: r, b :: bs, hx =>
      have := ih r bs x (by simpa using hx)
      rw [List.take_succ_cons, List.take_succ_cons]
      simp only [kept, List.getElem?_cons_succ]
      rw [this]
      by_cases h : bs[i]? = some true <;> cases b <;> simp [h]
theorem kept_sub : ∀ (l : List (Nat × List UInt8)) (keep : List Bool), ∀ x ∈ kept l keep, x ∈ l
  | [], _, x, h => by simp [kept] at h
  | _ :: _, [], x, h => by simp [kept] at h
  | y :: r, b :: bs, x, h => by
    simp only [kept] at h
    split at h
    · simp only [List.mem_cons] at h
      rcases h with rfl | h
      · simp
      · exact List.mem_cons_of_mem _ (kept_sub r bs x h)
    · exact List.mem_cons_of_mem _ (kept_sub r bs x h)

/-- what a sector has is what it has once all is settled -/
theorem settleAll_get : ∀ (l : List (Nat × List UInt8)) (s : List (List UInt8)) (k : Nat), k < s.length → (settleAll s l)[k]? = some (match newest l k with | some i => (l.getD i (0, [])).2 | none => s.getD k [])
  | [], s, k, h => by simp [settleAll, newest, h]
  | x :: r, s, k, h => by
    show (settleAll (settle s x) r)[k]? = _
    rw [settleAll_get r (settle s x) k (by rw [settle_len]; exact h)]
    simp only [newest]
    cases hn : newest r k with
    | some i => simp
    | none =>
      by_cases hx : x.1 = k
      · simp [hx, settle, List.getD, h]
      · simp [hx, settle, List.getD, h]
theorem now_eq (d : D) (k : Nat) (h : k < d.sure.length) : (settleAll d.sure d.loose)[k]? = some (now d k) := settleAll_get d.loose d.sure k h
theorem now_len {d : D} (h : d.ok) {k : Nat} (hk : k < d.sure.length) : (now d k).length = 128 := by
  have h1 := now_eq d k hk
  exact settleAll_each d.loose d.sure h.each (fun x hx => (h.there x hx).2) _ (List.mem_of_getElem? h1)

/-! ### what stays -/
theorem burnt_low {f : Int} (h : -1 ≤ f) : -1 ≤ burnt f := by unfold burnt; split <;> omega
theorem burnt_high {f : Int} (h : f ≤ 9223372036854775807) : burnt f ≤ 9223372036854775807 := by unfold burnt; split <;> omega
theorem D.ok.write {d : D} (h : d.ok) {k : Nat} {t : List UInt8} (hk : k < d.sure.length) (ht : t.length = 128) : (d.write k t).ok :=
  ⟨h.one, h.most, h.each, fun x hx => by
    simp only [D.write, List.mem_append, List.mem_singleton] at hx
    rcases hx with hx | rfl
    · exact h.there x hx
    · exact ⟨hk, ht⟩, burnt_low h.low, burnt_high h.high⟩
theorem D.ok.settled {d : D} (h : d.ok) {l : List (Nat × List UInt8)} (hl : ∀ x ∈ l, x ∈ d.loose) {f : Int} (h1 : -1 ≤ f) (h2 : f ≤ 9223372036854775807) (lo : List (Nat × List UInt8)) (hlo : ∀ x ∈ lo, x ∈ d.loose) : (D.mk (settleAll d.sure l) lo f).ok :=
  ⟨by show 1 ≤ (settleAll d.sure l).length; rw [settleAll_len]; exact h.one, by show (settleAll d.sure l).length ≤ _; rw [settleAll_len]; exact h.most,
   settleAll_each l d.sure h.each (fun x hx => (h.there x (hl x hx)).2), fun x hx => by show _ < (settleAll d.sure l).length ∧ _; rw [settleAll_len]; exact h.there x (hlo x hx), h1, h2⟩
theorem D.ok.sync {d : D} (h : d.ok) : d.sync.ok := h.settled (fun _ hx => hx) (burnt_low h.low) (burnt_high h.high) [] (by simp)
theorem D.ok.crash {d : D} (h : d.ok) (keep : List Bool) : (d.crash keep).ok := h.settled (kept_sub _ _) (by omega) (by omega) [] (by simp)
theorem D.ok.setFuse {d : D} (h : d.ok) {n : Int} (h1 : -1 ≤ n) (h2 : n ≤ 9223372036854775807) : (d.setFuse n).ok := ⟨h.one, h.most, h.each, h.there, h1, h2⟩
theorem D.ok_new {n : Nat} (h1 : 1 ≤ n) (h2 : n ≤ 16384) : (D.new n).ok :=
  ⟨by simp [D.new, h1], by simp [D.new, h2], by intro t ht; simp [D.new] at ht; rw [ht.2]; exact fullL_len 0, by simp [D.new], by simp [D.new], by simp [D.new]⟩

end Go.Proofs.Ytfcibccipkokoaa.Disk
