/-
  Plain mathematics: a log: its records, its bytes, what each call makes of it.
  Plain mathematics: a log's sectors; the bytes of a ring of them; what a log is that is opened.
-/
import Derived.Test.YtgohpompgiljiaaZ22
import Derived.Test.YtgohpompgiljiaaZ24
namespace Go.Proofs.Ytgohpompgiljiaa.Log
open Go.Proofs.Ytgohpompgiljiaa.Frame (L encF mayF nb enc_size may_iff)

/-- how many bytes the frames of these have -/
def sz : List ByteArray → Nat
  | [] => 0
  | x :: r => 14 + x.size + sz r
theorem sz_app (l m : List ByteArray) : sz (l ++ m) = sz l + sz m := by
  induction l with
  | nil => simp [sz]
  | cons x l ih => simp only [List.cons_append, sz, ih]; omega
theorem sz_take (l : List ByteArray) (k : Nat) : sz (l.take k) + sz (l.drop k) = sz l := by rw [← sz_app, List.take_append_drop]
theorem sz_take_le (l : List ByteArray) (k : Nat) : sz (l.take k) ≤ sz l := by have := sz_take l k; omega
theorem sz_ge (l : List ByteArray) : 14 * l.length ≤ sz l := by
  induction l with
  | nil => simp [sz]
  | cons x l ih => simp only [List.length_cons, sz]; omega
theorem sz_lt {l : List ByteArray} {i j : Nat} (h : i < j) (hj : j ≤ l.length) : sz (l.take i) < sz (l.take j) := by
  have e : l.take j = l.take i ++ (l.drop i).take (j - i) := by
    rw [← List.take_append_drop i (l.take j), List.take_take, Nat.min_eq_left (by omega), List.drop_take]
  rw [e, sz_app]
  have h1 := sz_ge ((l.drop i).take (j - i))
  rw [List.length_take, List.length_drop] at h1
  omega
theorem sz_le {l : List ByteArray} {i j : Nat} (h : i ≤ j) : sz (l.take i) ≤ sz (l.take j) := by
  have e : l.take i = (l.take j).take i := by rw [List.take_take, Nat.min_eq_left h]
  rw [e]
  exact sz_take_le _ _
/-- the records, with the places of their frames -/
def pos : Nat → List ByteArray → List (Nat × ByteArray)
  | _, [] => []
  | a, x :: r => (a, x) :: pos (a + (14 + x.size)) r
theorem pos_len : ∀ (l : List ByteArray) (a : Nat), (pos a l).length = l.length
  | [], _ => rfl
  | x :: r, a => by simp only [pos, List.length_cons, pos_len r]
theorem pos_get : ∀ (l : List ByteArray) (a i : Nat), (pos a l)[i]? = (l[i]?).map fun x => (a + sz (l.take i), x)
  | [], a, i => by simp [pos]
  | x :: r, a, 0 => by simp [pos, sz]
  | x :: r, a, i + 1 => by
    simp only [pos, List.getElem?_cons_succ, pos_get r, List.take_succ_cons, sz]
    congr 1
    funext y
    congr 1
    omega
theorem pos_app : ∀ (l m : List ByteArray) (a : Nat), pos a (l ++ m) = pos a l ++ pos (a + sz l) m
  | [], m, a => by simp [pos, sz]
  | x :: r, m, a => by
    simp only [List.cons_append, pos, pos_app r m, sz]
    rw [show a + (14 + x.size) + sz r = a + (14 + x.size + sz r) from by omega]
theorem pos_drop : ∀ (l : List ByteArray) (a i : Nat), (pos a l).drop i = pos (a + sz (l.take i)) (l.drop i)
  | [], a, i => by simp [pos]
  | x :: r, a, 0 => by simp [pos, sz]
  | x :: r, a, i + 1 => by
    simp only [pos, List.drop_succ_cons, pos_drop r, List.take_succ_cons, sz]
    congr 1
    omega
/-- the frames' bytes -/
def frs : Nat → List ByteArray → List UInt8
  | _, [] => []
  | a, x :: r => L (encF a x) ++ frs (a + (14 + x.size)) r
theorem frs_app : ∀ (l m : List ByteArray) (a : Nat), frs a (l ++ m) = frs a l ++ frs (a + sz l) m
  | [], m, a => by simp [frs, sz]
  | x :: r, m, a => by
    simp only [List.cons_append, frs, frs_app r m, sz, List.append_assoc]
    rw [show a + (14 + x.size) + sz r = a + (14 + x.size + sz r) from by omega]
theorem frs_len : ∀ (l : List ByteArray) (a : Nat), 0 < a → (∀ x ∈ l, 1 ≤ x.size ∧ x.size ≤ 4096) → (frs a l).length = sz l
  | [], _, _, _ => rfl
  | x :: r, a, ha, h => by
    have hx := h x (by simp)
    have e : (L (encF a x)).length = 14 + x.size := enc_size (may_iff.2 ⟨hx.1, hx.2, ha⟩)
    simp only [frs, List.length_append, e, sz]
    rw [frs_len r _ (by omega) (fun y hy => h y (by simp [hy]))]

/-- a log -/
structure G where
  n : Nat
  life : Nat
  first : Nat
  forced : Nat
  res : Nat
  head : List UInt8
  recs : List ByteArray
/-- the LSN of the first byte of an LSN's stretch -/
def beg (a : Nat) : Nat := a / 110 * 110
theorem beg_le (a : Nat) : beg a ≤ a := by unfold beg; omega
theorem beg_mod (a : Nat) : beg a + a % 110 = a := by unfold beg; omega
theorem beg_mono {a b : Nat} (h : a ≤ b) : beg a ≤ beg b := by
  unfold beg
  exact Nat.mul_le_mul_right _ (Nat.div_le_div_right h)
def G.next (g : G) : Nat := g.first + sz g.recs
def G.bytes (g : G) : List UInt8 := g.head ++ frs g.first g.recs
def G.tail (g : G) : List UInt8 := g.bytes.drop (beg g.forced - beg g.first)
def G.room (g : G) : Nat := g.n * 110 - (g.next - beg g.first) - g.res
structure G.ok (g : G) : Prop where
  n4 : 4 ≤ g.n
  n12 : g.n ≤ 4096
  life1 : 1 ≤ g.life
  life9 : g.life ≤ 1000000000
  low : 110 ≤ g.first
  head : g.head.length = g.first % 110
  each : ∀ x ∈ g.recs, 1 ≤ x.size ∧ x.size ≤ 4096
  cut : ∃ j, j ≤ g.recs.length ∧ g.forced = g.first + sz (g.recs.take j)
  used : g.next - beg g.first + g.res ≤ g.n * 110
section
variable {g : G}
theorem G.ok.fl (h : g.ok) : g.first ≤ g.forced ∧ g.forced ≤ g.next := by
  obtain ⟨j, _, e⟩ := h.cut
  have := sz_take_le g.recs j
  unfold G.next
  omega
theorem G.ok.bytes_len (h : g.ok) : g.bytes.length = g.next - beg g.first := by
  unfold G.bytes G.next
  rw [List.length_append, h.head, frs_len _ _ (by have := h.low; omega) h.each]
  have := beg_mod g.first
  omega
theorem G.ok.tail_len (h : g.ok) : g.tail.length = g.next - beg g.forced := by
  unfold G.tail
  rw [List.length_drop, h.bytes_len]
  have := beg_mono h.fl.1
  have := beg_le g.forced
  have := h.fl.2
  omega
theorem G.ok.recs_len (h : g.ok) : g.recs.length ≤ 40000 := by
  have h1 := sz_ge g.recs
  have h2 := h.used
  have h3 := h.n12
  have := beg_le g.first
  unfold G.next at h2
  omega
theorem G.ok.res_le (h : g.ok) : g.res ≤ 450560 := by
  have h2 := h.used
  have h3 := h.n12
  omega
theorem G.ok.room_eq (h : g.ok) : (g.room : Int) = (g.n : Int) * 110 - ((g.next : Int) - (beg g.first : Int)) - (g.res : Int) := by
  have h2 := h.used
  have h3 := beg_le g.first
  have h4 : g.first ≤ g.next := by unfold G.next; omega
  unfold G.room
  omega

/-! ### Append -/
def appE (g : G) (s : ByteArray) : Nat := if s.size < 1 ∨ 4096 < s.size then 2 else if g.room < 14 + s.size then 4 else 0
def appG (g : G) (s : ByteArray) : G := if appE g s = 0 then { g with recs := g.recs ++ [s] } else g
def appN (g : G) (s : ByteArray) : Nat := if appE g s = 0 then g.next else 0
theorem appE_ok {s : ByteArray} (h : appE g s = 0) : 1 ≤ s.size ∧ s.size ≤ 4096 ∧ 14 + s.size ≤ g.room := by
  unfold appE at h
  split at h
  · cases h
  split at h
  · cases h
  omega
theorem app_next (g : G) (s : ByteArray) : ({ g with recs := g.recs ++ [s] } : G).next = g.next + (14 + s.size) := by
  unfold G.next
  simp only [sz_app, sz]
  omega
theorem app_tail (h : g.ok) (s : ByteArray) : ({ g with recs := g.recs ++ [s] } : G).tail = g.tail ++ L (encF g.next s) := by
  unfold G.tail
  have e : ({ g with recs := g.recs ++ [s] } : G).bytes = g.bytes ++ L (encF g.next s) := by
    unfold G.bytes G.next
    simp only [frs_app, frs, List.append_nil, List.append_assoc]
  rw [e]
  have h1 := h.bytes_len
  have := beg_mono h.fl.1
  have := beg_le g.forced
  have := h.fl.2
  show (g.bytes ++ L (encF g.next s)).drop (beg g.forced - beg g.first) = _
  rw [List.drop_append_of_le_length (by omega)]
theorem app_ok (h : g.ok) {s : ByteArray} (h1 : 1 ≤ s.size) (h2 : s.size ≤ 4096) (h3 : 14 + s.size ≤ g.room) : ({ g with recs := g.recs ++ [s] } : G).ok := by
  refine ⟨h.n4, h.n12, h.life1, h.life9, h.low, h.head, fun x hx => ?_, ?_, ?_⟩
  · simp only [List.mem_append, List.mem_singleton] at hx
    rcases hx with hx | rfl
    · exact h.each x hx
    · exact ⟨h1, h2⟩
  · obtain ⟨j, hj, e⟩ := h.cut
    exact ⟨j, by show j ≤ (g.recs ++ [s]).length; rw [List.length_append]; omega, by show g.forced = _; rw [e]; show _ = g.first + sz ((g.recs ++ [s]).take j); rw [List.take_append_of_le_length hj]⟩
  · rw [app_next]
    have h4 := h.used
    have h5 := beg_le g.first
    have h6 : g.first ≤ g.next := by unfold G.next; omega
    show g.next + (14 + s.size) - beg g.first + g.res ≤ g.n * 110
    unfold G.room at h3
    omega
theorem appG_ok (h : g.ok) (s : ByteArray) : (appG g s).ok := by
  unfold appG
  split
  · rename_i e
    obtain ⟨h1, h2, h3⟩ := appE_ok e
    exact app_ok h h1 h2 h3
  · exact h
theorem appG_next (g : G) (s : ByteArray) : (appG g s).next ≤ g.next + 4110 := by
  unfold appG
  split
  · rename_i e
    obtain ⟨h1, h2, h3⟩ := appE_ok e
    rw [app_next]
    omega
  · omega

/-! ### Reserve -/
def rsE (g : G) (n : Int) : Nat := if (g.room : Int) < n then 4 else if (g.res : Int) + n < 0 then 2 else 0
def rsG (g : G) (n : Int) : G := if rsE g n = 0 then { g with res := ((g.res : Int) + n).toNat } else g
theorem rsG_ok (h : g.ok) (n : Int) : (rsG g n).ok := by
  unfold rsG
  split
  · rename_i e
    unfold rsE at e
    split at e
    · cases e
    split at e
    · cases e
    refine ⟨h.n4, h.n12, h.life1, h.life9, h.low, h.head, h.each, h.cut, ?_⟩
    have h1 := h.room_eq
    have h2 := h.used
    have h5 := beg_le g.first
    have h6 : g.first ≤ g.next := by unfold G.next; omega
    show g.next - beg g.first + ((g.res : Int) + n).toNat ≤ g.n * 110
    omega
  · exact h

/-! ### places -/
/-- which record's frame begins at an LSN, or the first one behind it -/
def idx : Nat → Nat → List ByteArray → Nat
  | _, _, [] => 0
  | a, b, x :: r => if a < b then idx (a + (14 + x.size)) b r + 1 else 0
theorem idx_le : ∀ (l : List ByteArray) (a b : Nat), idx a b l ≤ l.length
  | [], _, _ => Nat.le_refl _
  | x :: r, a, b => by
    simp only [idx, List.length_cons]
    split
    · have := idx_le r (a + (14 + x.size)) b; omega
    · omega
theorem idx_low : ∀ (l : List ByteArray) (a b i : Nat), i < idx a b l → a + sz (l.take i) < b
  | [], a, b, i, h => by simp [idx] at h
  | x :: r, a, b, 0, h => by
    simp only [idx] at h
    split at h
    · simp [sz]; assumption
    · omega
  | x :: r, a, b, i + 1, h => by
    simp only [idx] at h
    split at h
    · have := idx_low r (a + (14 + x.size)) b i (by omega)
      simp only [List.take_succ_cons, sz]
      omega
    · omega
theorem idx_up : ∀ (l : List ByteArray) (a b i : Nat), idx a b l ≤ i → i < l.length → b ≤ a + sz (l.take i)
  | [], a, b, i, _, h => by simp at h
  | x :: r, a, b, i, h, hi => by
    simp only [idx] at h
    split at h
    · cases i with
      | zero => omega
      | succ i =>
        have := idx_up r (a + (14 + x.size)) b i (by omega) (by simpa using hi)
        simp only [List.take_succ_cons, sz]
        omega
    · have := Nat.zero_le (sz ((x :: r).take i))
      omega
def hitB (a b : Nat) (l : List ByteArray) : Bool := decide (idx a b l < l.length ∧ a + sz (l.take (idx a b l)) = b)
def G.idx (g : G) (b : Nat) : Nat := Log.idx g.first b g.recs
def G.hit (g : G) (b : Nat) : Bool := hitB g.first b g.recs
theorem G.hit_yes {b : Nat} (h : g.hit b = true) : g.idx b < g.recs.length ∧ g.first + sz (g.recs.take (g.idx b)) = b := by
  unfold G.hit hitB at h
  exact of_decide_eq_true h
/-- the LSN behind all -/
theorem G.idx_next (g : G) : g.idx g.next = g.recs.length := by
  have h := idx_le g.recs g.first g.next
  unfold G.idx
  by_cases e : Log.idx g.first g.next g.recs = g.recs.length
  · exact e
  · have h1 : g.first + sz g.recs ≤ _ := idx_up g.recs g.first g.next _ (Nat.le_refl _) (by omega)
    have h2 := sz_lt (l := g.recs) (i := Log.idx g.first g.next g.recs) (j := g.recs.length) (by omega) (Nat.le_refl _)
    rw [List.take_length] at h2
    omega
theorem G.at_idx {b : Nat} (h : g.hit b = true ∨ b = g.next) : g.idx b ≤ g.recs.length ∧ b = g.first + sz (g.recs.take (g.idx b)) := by
  rcases h with h | rfl
  · have := G.hit_yes h
    exact ⟨by omega, this.2.symm⟩
  · rw [G.idx_next, List.take_length]
    exact ⟨Nat.le_refl _, rfl⟩

/-! ### Keep -/
def kpE (g : G) (b : Nat) : Nat := if g.forced < b ∨ (g.hit b = false ∧ b ≠ g.next) then 2 else 0
def kpY (g : G) (b : Nat) : G := { g with first := b, recs := g.recs.drop (g.idx b), head := (g.bytes.take (b - beg g.first)).drop (beg b - beg g.first) }
def kpG (g : G) (b : Nat) : G := if kpE g b = 0 then kpY g b else g
theorem kpE_ok {b : Nat} (h : kpE g b = 0) : b ≤ g.forced ∧ (g.hit b = true ∨ b = g.next) := by
  unfold kpE at h
  split at h
  · cases h
  rename_i hn
  refine ⟨by omega, ?_⟩
  cases hh : g.hit b with
  | true => exact .inl rfl
  | false => exact .inr (by
      by_cases e : b = g.next
      · exact e
      · exact absurd (.inr ⟨hh, e⟩) hn)
section
variable {b : Nat} (h : g.ok) (hb : g.hit b = true ∨ b = g.next) (hf : b ≤ g.forced)
include h hb
theorem kp_first : g.first ≤ b ∧ b ≤ g.next := by
  have _ := h
  have := (G.at_idx hb).2
  have := sz_take_le g.recs (g.idx b)
  unfold G.next
  omega
theorem kp_next : (kpY g b).next = g.next := by
  have _ := h
  have h1 := (G.at_idx hb).2
  have h2 := sz_take g.recs (g.idx b)
  show b + sz (g.recs.drop (g.idx b)) = g.first + sz g.recs
  omega
theorem kp_bytes : (kpY g b).bytes = g.bytes.drop (beg b - beg g.first) := by
  have h0 := h.bytes_len
  have h1 := (G.at_idx hb).2
  have h2 := kp_first h hb
  have h3 := beg_mono h2.1
  have h4 := beg_le b
  have h5 := beg_le g.first
  have e : g.bytes = g.bytes.take (b - beg g.first) ++ frs b (g.recs.drop (g.idx b)) := by
    have e1 : frs g.first g.recs = frs g.first (g.recs.take (g.idx b)) ++ frs b (g.recs.drop (g.idx b)) := by
      conv => lhs; rw [← List.take_append_drop (g.idx b) g.recs]
      rw [frs_app, ← h1]
    have e2 : g.bytes = (g.head ++ frs g.first (g.recs.take (g.idx b))) ++ frs b (g.recs.drop (g.idx b)) := by
      unfold G.bytes
      rw [e1, List.append_assoc]
    have e3 : (g.head ++ frs g.first (g.recs.take (g.idx b))).length = b - beg g.first := by
      rw [List.length_append, h.head, frs_len _ _ (by have := h.low; omega) (fun x hx => h.each x (List.mem_of_mem_take hx))]
      have := beg_mod g.first
      omega
    have e4 : g.bytes.take (b - beg g.first) = g.head ++ frs g.first (g.recs.take (g.idx b)) := by
      rw [e2, List.take_left' e3]
    rw [e4]
    exact e2
  show (g.bytes.take (b - beg g.first)).drop (beg b - beg g.first) ++ frs b (g.recs.drop (g.idx b)) = _
  conv => rhs; rw [e]
  rw [List.drop_append_of_le_length (by rw [List.length_take]; omega)]
include hf
theorem kp_tail : (kpY g b).tail = g.tail := by
  unfold G.tail
  rw [kp_bytes h hb]
  have h1 := beg_mono (kp_first h hb).1
  have h2 := beg_mono hf
  show (g.bytes.drop (beg b - beg g.first)).drop (beg g.forced - beg b) = _
  rw [List.drop_drop]
  congr 1
  omega
theorem kp_ok : (kpY g b).ok := by
  obtain ⟨h1, h2⟩ := G.at_idx hb
  have h3 := kp_first h hb
  have h4 := beg_mono h3.1
  have h5 := beg_le b
  have h6 := beg_le g.first
  have h7 := h.bytes_len
  have h8 := beg_mod b
  refine ⟨h.n4, h.n12, h.life1, h.life9, ?_, ?_, fun x hx => h.each x (List.mem_of_mem_drop hx), ?_, ?_⟩
  · show 110 ≤ b
    have := h.low
    omega
  · show ((g.bytes.take (b - beg g.first)).drop (beg b - beg g.first)).length = b % 110
    rw [List.length_drop, List.length_take]
    omega
  · obtain ⟨j, hj, e⟩ := h.cut
    have hij : g.idx b ≤ j := by
      rcases Nat.lt_or_ge j (g.idx b) with hlt | hge
      · have := sz_lt hlt h1
        omega
      · exact hge
    refine ⟨j - g.idx b, by show _ ≤ (g.recs.drop (g.idx b)).length; rw [List.length_drop]; omega, ?_⟩
    show g.forced = b + sz ((g.recs.drop (g.idx b)).take (j - g.idx b))
    have e2 : g.recs.take j = g.recs.take (g.idx b) ++ (g.recs.drop (g.idx b)).take (j - g.idx b) := by
      rw [← List.take_append_drop (g.idx b) (g.recs.take j), List.take_take, Nat.min_eq_left hij, List.drop_take]
    rw [e, e2, sz_app]
    omega
  · rw [kp_next h hb]
    have h9 := h.used
    show g.next - beg b + g.res ≤ g.n * 110
    omega
end
theorem kpG_ok (h : g.ok) (b : Nat) : (kpG g b).ok := by
  unfold kpG
  split
  · rename_i e
    obtain ⟨h1, h2⟩ := kpE_ok e
    exact kp_ok h h2 h1
  · exact h

/-! ### Force -/
def fcE (g : G) (b : Nat) : Nat := if g.next < b then 2 else 0
/-- is anything done? -/
def fcB (g : G) (b : Nat) : Bool := decide (b ≤ g.next ∧ g.forced ≤ b ∧ g.forced ≠ g.next)
def fcG (g : G) (b : Nat) : G := if fcB g b then { g with forced := g.next } else g
theorem fc_ok (h : g.ok) : ({ g with forced := g.next } : G).ok :=
  ⟨h.n4, h.n12, h.life1, h.life9, h.low, h.head, h.each, ⟨g.recs.length, Nat.le_refl _, by show g.next = g.first + sz (g.recs.take g.recs.length); rw [List.take_length]; rfl⟩, h.used⟩
theorem fcG_ok (h : g.ok) (b : Nat) : (fcG g b).ok := by
  unfold fcG
  split
  · exact fc_ok h
  · exact h
theorem fc_tail (h : g.ok) : ({ g with forced := g.next } : G).tail = g.tail.drop (beg g.next - beg g.forced) := by
  unfold G.tail
  show g.bytes.drop (beg g.next - beg g.first) = _
  have h1 := beg_mono h.fl.1
  have h2 := beg_mono h.fl.2
  rw [List.drop_drop]
  congr 1
  omega
end

end Go.Proofs.Ytgohpompgiljiaa.Log

namespace Go.Proofs.Ytgohpompgiljiaa.Log
open Go.Proofs.Ytgohpompgiljiaa.Frame (L encF mayF nb enc_size may_iff decE decS decU decU_pos dec_yes nF aF okF scn scn_yes scn_no scn_nil scn_used up up_of L_cut L_ext L_len whole_iff cut_size)

/-- the k-th stretch's sector -/
def secL (k life : Nat) (p : List UInt8) : List UInt8 := be 8 (k * 110) ++ (be 8 life ++ (be 2 p.length ++ (p ++ List.replicate (110 - p.length) 0)))
theorem secL_len {k life : Nat} {p : List UInt8} (h : p.length ≤ 110) : (secL k life p).length = 128 := by
  unfold secL
  simp only [List.length_append, be_length, List.length_replicate]
  omega
/-- what a sector tells -/
def plsn (t : List UInt8) : Nat := num (t.take 8)
def plife (t : List UInt8) : Nat := num ((t.drop 8).take 8)
def pmany (t : List UInt8) : Nat := num ((t.drop 16).take 2)
def ptext (t : List UInt8) : List UInt8 := if pmany t ≤ 110 then (t.drop 18).take (pmany t) else []
theorem plsn_lt (t : List UInt8) : plsn t < 18446744073709551616 := num_lt_of (m := 8) (by simp; omega)
theorem plife_lt (t : List UInt8) : plife t < 18446744073709551616 := num_lt_of (m := 8) (by simp; omega)
theorem pmany_lt (t : List UInt8) : pmany t < 65536 := num_lt_of (m := 2) (by simp; omega)
theorem ptext_len {t : List UInt8} (h : t.length = 128) : (ptext t).length ≤ 110 ∧ (pmany t ≤ 110 → (ptext t).length = pmany t) ∧ (110 < pmany t → (ptext t).length = 0) := by
  unfold ptext
  split
  · rw [List.length_take, List.length_drop]; omega
  · simp; omega
theorem ptext_le (t : List UInt8) : (ptext t).length ≤ 110 := by
  unfold ptext
  split
  · rw [List.length_take]; omega
  · simp
section
variable {k life : Nat} {p : List UInt8}
theorem secL_lsn (hk : k * 110 < 18446744073709551616) : plsn (secL k life p) = k * 110 := by
  unfold plsn secL
  rw [List.take_left' (be_length _ _), num_be 8 _ (by omega)]
theorem secL_life (hl : life < 18446744073709551616) : plife (secL k life p) = life := by
  unfold plife secL
  rw [List.drop_left' (be_length _ _), List.take_left' (be_length _ _), num_be 8 _ (by omega)]
theorem secL_many (hp : p.length ≤ 110) : pmany (secL k life p) = p.length := by
  unfold pmany secL
  rw [← List.append_assoc, List.drop_left' (by simp only [List.length_append, be_length]), List.take_left' (be_length _ _), num_be 2 _ (by omega)]
theorem secL_text (hp : p.length ≤ 110) : ptext (secL k life p) = p := by
  unfold ptext
  rw [secL_many hp, if_pos hp]
  unfold secL
  rw [← List.append_assoc, ← List.append_assoc, List.drop_left' (by simp only [List.length_append, be_length]), List.take_left' rfl]
end

/-- the bytes that a ring has, of m stretches at most, from the k-th on -/
def strm (f : Nat → List UInt8) (life : Nat) : Nat → Nat → Nat → List UInt8
  | 0, _, _ => []
  | m + 1, k, least => if plsn (f k) ≠ k * 110 ∨ plife (f k) < least ∨ life < plife (f k) then [] else if (ptext (f k)).length < 110 then ptext (f k) else ptext (f k) ++ strm f life m (k + 1) (plife (f k))
theorem strm_succ (f : Nat → List UInt8) (life m k least : Nat) : strm f life (m + 1) k least = if plsn (f k) ≠ k * 110 ∨ plife (f k) < least ∨ life < plife (f k) then [] else if (ptext (f k)).length < 110 then ptext (f k) else ptext (f k) ++ strm f life m (k + 1) (plife (f k)) := rfl
theorem strm_pos (f : Nat → List UInt8) (life : Nat) {m : Nat} (h : 0 < m) (k least : Nat) : strm f life m k least = if plsn (f k) ≠ k * 110 ∨ plife (f k) < least ∨ life < plife (f k) then [] else if (ptext (f k)).length < 110 then ptext (f k) else ptext (f k) ++ strm f life (m - 1) (k + 1) (plife (f k)) := by
  obtain ⟨x, rfl⟩ : ∃ x, m = x + 1 := ⟨m - 1, by omega⟩
  exact strm_succ f life x k least
theorem strm_len (f : Nat → List UInt8) (life : Nat) : ∀ m k least, (strm f life m k least).length ≤ m * 110
  | 0, _, _ => by simp [strm]
  | m + 1, k, least => by
    rw [strm_succ]
    split
    · simp
    split
    · have := ptext_le (f k); omega
    · have := ptext_le (f k)
      have := strm_len f life m (k + 1) (plife (f k))
      rw [List.length_append]
      omega

/-! ### what is scanned -/
theorem dec_whole {t : ByteArray} {lsn : Nat} (h : decE t lsn = 0) : L (encF lsn (decS t lsn)) = (L t).take (decU t lsn) ∧ 1 ≤ (decS t lsn).size ∧ (decS t lsn).size ≤ 4096 ∧ decU t lsn = 14 + (decS t lsn).size := by
  obtain ⟨h1, h2, h3, h4, h5, h6⟩ := dec_yes h
  have e1 : decS t lsn = t.extract 14 (14 + nF t) := by unfold decS; rw [if_pos h]
  have e2 : decU t lsn = 14 + nF t := by unfold decU; rw [if_pos h]
  have e3 : (t.extract 14 (14 + nF t)).size = nF t := by rw [ByteArray.size_extract]; omega
  have e4 := whole_iff h1 h2 h3 h4 h5
  rw [h6] at e4
  rw [e1, e2, e3]
  refine ⟨(of_decide_eq_true e4).trans ?_, h1, h2, rfl⟩
  rw [L_cut, List.drop_zero, Nat.sub_zero]
theorem scn_facts : ∀ (m : Nat) (s : ByteArray) (lsn : Nat), s.size ≤ m → lsn + s.size < 18446744073709551616 →
    (∀ x ∈ (scn s lsn).1, 1 ≤ x.size ∧ x.size ≤ 4096) ∧ (scn s lsn).2.1 = sz (scn s lsn).1 ∧ frs lsn (scn s lsn).1 = (L s).take (sz (scn s lsn).1)
  | 0, s, lsn, h, _ => by
    rw [scn_nil (by omega)]
    simp [sz, frs]
  | m + 1, s, lsn, h, hb => by
    by_cases h0 : s.size = 0
    · rw [scn_nil h0]
      simp [sz, frs]
    by_cases he : decE s lsn = 0
    · have hu := decU_pos he
      obtain ⟨w1, w2, w3, w4⟩ := dec_whole he
      have hz := cut_size s (decU s lsn) hu.2
      have e5 : up lsn (decU s lsn) = lsn + decU s lsn := up_of (by omega)
      have ih := scn_facts m (s.extract (decU s lsn) s.size) (up lsn (decU s lsn)) (by omega) (by rw [e5]; omega)
      have hu2 := scn_used (s.extract (decU s lsn) s.size) (up lsn (decU s lsn))
      rw [scn_yes he]
      have hL : L (s.extract (decU s lsn) s.size) = (L s).drop (decU s lsn) := by
        rw [L_cut, List.take_of_length_le (by rw [List.length_drop, L_len]; omega)]
      rw [hL] at ih
      rw [hz] at hu2
      generalize scn (s.extract (decU s lsn) s.size) (up lsn (decU s lsn)) = r at *
      obtain ⟨xs, u, e⟩ := r
      obtain ⟨i1, i2, i3⟩ := ih
      simp only at i1 i2 i3 hu2
      generalize decS s lsn = x at *
      generalize decU s lsn = d at *
      refine ⟨fun y hy => ?_, ?_, ?_⟩
      · simp only [List.mem_cons] at hy
        rcases hy with rfl | hy
        · exact ⟨w2, w3⟩
        · exact i1 y hy
      · show d + u = 14 + x.size + sz xs
        omega
      · show L (encF lsn x) ++ frs (lsn + (14 + x.size)) xs = (L s).take (14 + x.size + sz xs)
        rw [w1, ← w4, ← e5, i3, List.take_add]
    · rw [scn_no (by omega) he]
      simp [sz, frs]
/-- one frame alone -/
theorem scn_one {a : Nat} {s : ByteArray} (ha : a < 18446744073709551616) (h : mayF a s = true) : scn (encF a s) a = ([s], 14 + s.size, 0) := by
  have d := Frame.dec_enc (⟨#[]⟩ : ByteArray) ha h
  rw [Frame.no_right] at d
  have hz := enc_size h
  rw [scn_yes d.1, d.2.1, d.2.2, scn_nil (by rw [cut_size _ _ (by omega)]; omega)]
  rfl

/-! ### Open -/
def bs (l : List UInt8) : ByteArray := ⟨l.toArray⟩
theorem bs_size (l : List UInt8) : (bs l).size = l.length := by show l.toArray.size = _; rw [List.size_toArray]
theorem L_bs (l : List UInt8) : L (bs l) = l := by simp [L, bs]
theorem bs_L (s : ByteArray) : bs (L s) = s := L_ext (L_bs _)
def opT (S : List UInt8) (first : Nat) : List ByteArray := (scn (bs (S.drop (first % 110))) first).1
def opG (n life first : Nat) (S : List UInt8) : G := ⟨n, life, first, first + sz (opT S first), 0, S.take (first % 110), opT S first⟩
def opE (first : Nat) (S : List UInt8) : Nat := if S.length < first % 110 then 120 else 0
/-- does the stream go on behind Next? -/
def opX (first : Nat) (S : List UInt8) : Bool := decide (first % 110 + sz (opT S first) < S.length)
section
variable {n life first : Nat} {S : List UInt8}
theorem op_facts (hf : first ≤ 1000000000000) (hS : S.length ≤ 1000000) : (∀ x ∈ opT S first, 1 ≤ x.size ∧ x.size ≤ 4096) ∧ (scn (bs (S.drop (first % 110))) first).2.1 = sz (opT S first) ∧ frs first (opT S first) = (S.drop (first % 110)).take (sz (opT S first)) ∧ sz (opT S first) ≤ S.length - first % 110 := by
  have hz : (bs (S.drop (first % 110))).size = S.length - first % 110 := by rw [bs_size, List.length_drop]
  have h := scn_facts _ (bs (S.drop (first % 110))) first (Nat.le_refl _) (by omega)
  have hu := scn_used (bs (S.drop (first % 110))) first
  rw [L_bs] at h
  rw [h.2.1, hz] at hu
  exact ⟨h.1, h.2.1, h.2.2, hu⟩
theorem opG_next : (opG n life first S).next = first + sz (opT S first) := rfl
theorem opG_bytes (hf : first ≤ 1000000000000) (hS : S.length ≤ 1000000) (_hE : first % 110 ≤ S.length) : (opG n life first S).bytes = S.take (first % 110 + sz (opT S first)) := by
  obtain ⟨h1, h2, h3, h4⟩ := op_facts hf hS
  show S.take (first % 110) ++ frs first (opT S first) = _
  rw [h3, List.take_add]
theorem opG_tail (hf : first ≤ 1000000000000) (hS : S.length ≤ 1000000) (hE : first % 110 ≤ S.length) : (opG n life first S).tail = (S.take (first % 110 + sz (opT S first))).drop (beg (first + sz (opT S first)) - beg first) := by
  unfold G.tail
  rw [opG_bytes hf hS hE]
  rfl
theorem opG_ok (hn4 : 4 ≤ n) (hn12 : n ≤ 4096) (hl : 1 ≤ life) (hl9 : life ≤ 1000000000) (h110 : 110 ≤ first) (hf : first ≤ 1000000000000) (hS : S.length ≤ n * 110) (hE : first % 110 ≤ S.length) : (opG n life first S).ok := by
  obtain ⟨h1, h2, h3, h4⟩ := op_facts (S := S) hf (by omega)
  refine ⟨hn4, hn12, hl, hl9, h110, ?_, h1, ⟨(opT S first).length, Nat.le_refl _, ?_⟩, ?_⟩
  · show (S.take (first % 110)).length = first % 110
    rw [List.length_take]; omega
  · show first + sz (opT S first) = first + sz ((opT S first).take (opT S first).length)
    rw [List.take_length]
  · show first + sz (opT S first) - beg first + 0 ≤ n * 110
    have := beg_mod first
    omega
end
/-- a new log -/
def newG (n life : Nat) : G := ⟨n, life, 110, 110, 0, [], []⟩
theorem newG_ok {n life : Nat} (hn4 : 4 ≤ n) (hn12 : n ≤ 4096) (hl : 1 ≤ life) (hl9 : life ≤ 1000000000) : (newG n life).ok :=
  ⟨hn4, hn12, hl, hl9, Nat.le_refl _, (by show 0 = 110 % 110; omega), (by intro x hx; cases hx), ⟨0, Nat.le_refl _, (by show 110 = 110 + 0; omega)⟩, by show 110 + 0 - 110 / 110 * 110 + 0 ≤ n * 110; omega⟩
theorem newG_tail (n life : Nat) : (newG n life).tail = [] := List.drop_nil

/-! ### what is forced, sector by sector -/
def ch (t : List UInt8) (i : Nat) : List UInt8 := (t.drop (110 * i)).take 110
def nch (t : List UInt8) : Nat := (t.length + 109) / 110
def chunks (t : List UInt8) : List (List UInt8) := (List.range (nch t)).map (ch t)
theorem chunks_len (t : List UInt8) : (chunks t).length = nch t := by unfold chunks; simp
theorem ch_len (t : List UInt8) (i : Nat) : (ch t i).length = min 110 (t.length - 110 * i) := by unfold ch; rw [List.length_take, List.length_drop]
theorem ch_le (t : List UInt8) (i : Nat) : (ch t i).length ≤ 110 := by rw [ch_len]; omega

end Go.Proofs.Ytgohpompgiljiaa.Log
