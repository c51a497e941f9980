/-
  Plain mathematics of the order of texts.
  Walks: keys, values, their order.
  Walks: what two texts begin with alike; the document's order.
  Walks: the document's order, what is within.
  Walks: what is within; copies; what is between; the next one; the answers that the document fixes.
-/
import Derived.Lib.Bytealg
import Derived.Test.YtbdbnpcbbebelaaDoorShelf
import Derived.WalkKit
import Derived.WalkSpells
import Derived.WalkLawsBesides
import Derived.Lib.Hide
import Derived.Laws.BitsAllLaws
import Derived.Laws.Rows
import Derived.BigQuiet
import Derived.Deep.QuietTactic
import Derived.ArgAppend
import Derived.WalkMore
import Derived.Deep.RegionHeld3
import Derived.Deep.DrawnRows
namespace Go.Proofs.YtbdbnpcbbebelaaDoor.Key

/-- how many bytes both begin with alike -/
def com : List UInt8 → List UInt8 → Nat
  | a :: aas, b :: bs => if a = b then com aas bs + 1 else 0
  | _, _ => 0
def cmp (a b : List UInt8) : Int := Lib.compareBytes a b

theorem cmp_nil : cmp [] [] = 0 := rfl
theorem cmp_nil_cons (b : UInt8) (bs : List UInt8) : cmp [] (b :: bs) = -1 := rfl
theorem cmp_cons_nil (b : UInt8) (bs : List UInt8) : cmp (b :: bs) [] = 1 := rfl
theorem cmp_cons (a b : UInt8) (aas bs : List UInt8) : cmp (a :: aas) (b :: bs) = if a < b then -1 else if b < a then 1 else cmp aas bs := rfl
theorem cmp_cons_lt {a b : UInt8} (aas bs : List UInt8) (h : a.toNat < b.toNat) : cmp (a :: aas) (b :: bs) = -1 := by
  rw [cmp_cons, if_pos (UInt8.lt_iff_toNat_lt.2 h)]
theorem cmp_cons_gt {a b : UInt8} (aas bs : List UInt8) (h : b.toNat < a.toNat) : cmp (a :: aas) (b :: bs) = 1 := by
  rw [cmp_cons, if_neg (by rw [UInt8.lt_iff_toNat_lt]; omega), if_pos (UInt8.lt_iff_toNat_lt.2 h)]
theorem cmp_cons_same (a : UInt8) (aas bs : List UInt8) : cmp (a :: aas) (a :: bs) = cmp aas bs := by
  rw [cmp_cons, if_neg (UInt8.lt_irrefl a), if_neg (UInt8.lt_irrefl a)]

theorem byte_three (a b : UInt8) : a.toNat < b.toNat ∨ a = b ∨ b.toNat < a.toNat := by
  rcases Nat.lt_trichotomy a.toNat b.toNat with h | h | h
  · exact .inl h
  · exact .inr (.inl (UInt8.toNat_inj.1 h))
  · exact .inr (.inr h)

theorem cmp_range : ∀ a b : List UInt8, -1 ≤ cmp a b ∧ cmp a b ≤ 1
  | [], [] => by rw [cmp_nil]; omega
  | [], _ :: _ => by rw [cmp_nil_cons]; omega
  | _ :: _, [] => by rw [cmp_cons_nil]; omega
  | a :: aas, b :: bs => by
    rcases byte_three a b with h | rfl | h
    · rw [cmp_cons_lt _ _ h]; omega
    · rw [cmp_cons_same]; exact cmp_range aas bs
    · rw [cmp_cons_gt _ _ h]; omega
theorem cmp_neg : ∀ a b : List UInt8, cmp b a = -cmp a b
  | [], [] => rfl
  | [], _ :: _ => rfl
  | _ :: _, [] => rfl
  | a :: aas, b :: bs => by
    rcases byte_three a b with h | rfl | h
    · rw [cmp_cons_lt _ _ h, cmp_cons_gt _ _ h]; rfl
    · rw [cmp_cons_same, cmp_cons_same]; exact cmp_neg aas bs
    · rw [cmp_cons_gt _ _ h, cmp_cons_lt _ _ h]
theorem cmp_zero : ∀ a b : List UInt8, cmp a b = 0 ↔ a = b
  | [], [] => by simp [cmp_nil]
  | [], _ :: _ => by simp [cmp_nil_cons]
  | _ :: _, [] => by simp [cmp_cons_nil]
  | a :: aas, b :: bs => by
    rcases byte_three a b with h | rfl | h
    · rw [cmp_cons_lt _ _ h]
      constructor
      · intro h2; omega
      · rintro h2; injection h2 with h3; subst h3; omega
    · rw [cmp_cons_same, cmp_zero aas bs]; simp
    · rw [cmp_cons_gt _ _ h]
      constructor
      · intro h2; omega
      · rintro h2; injection h2 with h3; subst h3; omega
theorem cmp_trans : ∀ a b c : List UInt8, cmp a b ≤ 0 → cmp b c ≤ 0 → cmp a c ≤ 0
  | [], _, [], _, _ => by rw [cmp_nil]; omega
  | [], _, _ :: _, _, _ => by rw [cmp_nil_cons]; omega
  | a :: aas, [], c, h, _ => by rw [cmp_cons_nil] at h; omega
  | a :: aas, b :: bs, [], _, h => by rw [cmp_cons_nil] at h; omega
  | a :: aas, b :: bs, c :: cs, h1, h2 => by
    rcases byte_three a b with h | rfl | h
    · rcases byte_three b c with h3 | rfl | h3
      · rw [cmp_cons_lt _ _ (by omega)]; omega
      · rw [cmp_cons_lt _ _ (by omega)]; omega
      · rw [cmp_cons_gt _ _ h3] at h2; omega
    · rcases byte_three a c with h3 | rfl | h3
      · rw [cmp_cons_lt _ _ (by omega)]; omega
      · rw [cmp_cons_same] at h1 h2 ⊢; exact cmp_trans aas bs cs h1 h2
      · rw [cmp_cons_gt _ _ h3] at h2; omega
    · rw [cmp_cons_gt _ _ h] at h1; omega
theorem cmp_longer : ∀ (a : List UInt8) (x : UInt8) (l : List UInt8), cmp a (a ++ x :: l) = -1
  | [], _, _ => rfl
  | a :: aas, x, l => by rw [List.cons_append, cmp_cons_same]; exact cmp_longer aas x l

theorem com_le : ∀ a b : List UInt8, com a b ≤ a.length ∧ com a b ≤ b.length
  | [], _ => by simp [com]
  | _ :: _, [] => by simp [com]
  | a :: aas, b :: bs => by
    have h := com_le aas bs
    unfold com
    split
    · simp; omega
    · simp
theorem com_take : ∀ a b : List UInt8, a.take (com a b) = b.take (com a b)
  | [], _ => by simp [com]
  | _ :: _, [] => by simp [com]
  | a :: aas, b :: bs => by
    have h := com_take aas bs
    unfold com
    split
    · rename_i e; subst e; rw [List.take_succ_cons, List.take_succ_cons, h]
    · rfl
theorem com_next : ∀ (a b : List UInt8) (h1 : com a b < a.length) (h2 : com a b < b.length), a[com a b] ≠ b[com a b]
  | [], _, h1, _ => by simp at h1
  | _ :: _, [], _, h2 => by simp at h2
  | a :: aas, b :: bs, h1, h2 => by
    have ih := com_next aas bs
    by_cases e : a = b
    · have e2 : com (a :: aas) (b :: bs) = com aas bs + 1 := by show (if a = b then _ else _) = _; rw [if_pos e]
      simp only [e2, List.length_cons, List.getElem_cons_succ] at h1 h2 ⊢
      exact ih (by omega) (by omega)
    · have e2 : com (a :: aas) (b :: bs) = 0 := by show (if a = b then _ else _) = _; rw [if_neg e]
      simp only [e2, List.getElem_cons_zero]
      exact e
/-- who is ahead of b shares less than all of b -/
theorem com_lt : ∀ a b : List UInt8, cmp a b < 0 → com a b < b.length
  | [], [], h => by rw [cmp_nil] at h; omega
  | [], _ :: _, _ => by simp [com]
  | _ :: _, [], h => by rw [cmp_cons_nil] at h; omega
  | a :: aas, b :: bs, h => by
    unfold com
    split
    · rename_i e; subst e; rw [cmp_cons_same] at h
      have := com_lt aas bs h
      simp; omega
    · simp

/-- the three of a range: what is within a and c is within just one of the parts at b -/
theorem cmp_parts (k a b c : List UInt8) (h : cmp a b ≤ 0) (hb : b ≠ []) (hc : c = [] ∨ cmp b c ≤ 0) :
    (decide (cmp k a ≥ 0) && (decide (c = []) || decide (cmp k c < 0))) = ((decide (cmp k a ≥ 0) && (decide (b = []) || decide (cmp k b < 0))) != (decide (cmp k b ≥ 0) && (decide (c = []) || decide (cmp k c < 0)))) := by
  rw [decide_eq_false hb, Bool.false_or]
  by_cases h1 : cmp k b < 0
  · have h2 : ¬ cmp k b ≥ 0 := by omega
    rw [decide_eq_true h1, decide_eq_false h2, Bool.and_true, Bool.false_and, Bool.bne_false]
    have h3 : decide (c = []) || decide (cmp k c < 0) := by
      rcases hc with hc | hc
      · simp [hc]
      · have h4 := cmp_trans k b c (by omega) hc
        have h5 : cmp k c ≠ 0 := by
          intro h6
          rw [cmp_zero] at h6
          subst h6
          have := cmp_neg b k
          omega
        simp; right; omega
    rw [h3, Bool.and_true]
  · have h2 : cmp k b ≥ 0 := by omega
    have h3 : cmp k a ≥ 0 := by
      have e1 := cmp_neg k a
      have e2 := cmp_neg k b
      have e3 := cmp_trans a b k h (by omega)
      omega
    rw [decide_eq_false h1, decide_eq_true h2, decide_eq_true h3]
    simp

theorem drop_step (l : List UInt8) (k : Nat) (h : k < l.length) : l.drop k = l[k] :: l.drop (k + 1) := List.drop_eq_getElem_cons h

end Go.Proofs.YtbdbnpcbbebelaaDoor.Key

namespace Go.Proofs.YtbdbnpcbbebelaaDoor.Key
open Go.RowKit

theorem len_data (s : ByteArray) : s.data.toList.length = s.size := (Lib.size_eq _).symm

/-- it may be a key, a value -/
def may (s : ByteArray) : Bool := decide (1 ≤ s.size) && decide (s.size ≤ 48)
def isValue (s : ByteArray) : Bool := decide (s.size ≤ 96)

theorem may_any (s : ByteArray) (w : World) (hs : s.size ≤ maxLen) :
    Calls Tryd.prog 93 #[.string s] w fun e w' => e = .returned (.bool (may s)) ∧ w = w' := by
  unfold maxLen at hs
  obtain ⟨b, hb⟩ : ∃ b, b = may s := ⟨_, rfl⟩
  rw [← hb]
  unfold may at hb
  have B := Lib.hid hb
  clear hb
  go_enter Tryd.func93, Tryd.ntmps93
  go_wp2_with fail
  · go_ret
    rename_i h
    refine ⟨?_, rfl⟩
    have h2 : (decide ((s.size : Int) ≤ 48)) = b := by
      rw [B.out, decide_eq_true (show 1 ≤ s.size by omega), Bool.true_and]
      exact decide_eq_decide.2 (by omega)
    rw [← h2]
    rfl
  · go_ret
    rename_i h
    refine ⟨?_, rfl⟩
    have h2 : false = b := by
      rw [B.out, decide_eq_false (show ¬ 1 ≤ s.size by omega), Bool.false_and]
    rw [← h2]
    rfl

theorem compare_any (a b : ByteArray) (w : World) :
    Calls Tryd.prog 63 #[.string a, .string b] w fun e w' => e = .returned (.int .i64 (cmp a.data.toList b.data.toList)) ∧ w = w' := by
  go_enter Tryd.func63, Tryd.ntmps63
  go_wp2_with (go_at_call 74; refine (Tryd.strings_Compare _ _ _).mono ?_; rintro e w' ⟨rfl, rfl⟩)
  go_ret
  exact ⟨rfl, rfl⟩

end Go.Proofs.YtbdbnpcbbebelaaDoor.Key

namespace Go.Proofs.YtbdbnpcbbebelaaDoor.Key
open Go.RowKit

theorem get_data (s : ByteArray) (k : Nat) (h : k < s.size) : s.data.toList[k]'(by rw [len_data]; exact h) = s[k] := rfl
theorem drop_data (s : ByteArray) (k : Nat) (h : k < s.size) : s.data.toList.drop k = s[k] :: s.data.toList.drop (k + 1) := by
  rw [drop_step _ _ (by rw [len_data]; exact h), get_data]
theorem drop_all (s : ByteArray) (k : Nat) (h : k = s.size) : s.data.toList.drop k = [] := List.drop_of_length_le (by rw [len_data]; omega)

/-- both, from place k on -/
def comFrom (a b : ByteArray) (k : Nat) : Nat := com (a.data.toList.drop k) (b.data.toList.drop k)
def comOf (a b : ByteArray) : Nat := com a.data.toList b.data.toList
theorem comFrom_zero (a b : ByteArray) : comFrom a b 0 = comOf a b := rfl
theorem comFrom_same (a b : ByteArray) (k : Nat) (ha : k < a.size) (hb : k < b.size) (h : a[k].toNat = b[k].toNat) : comFrom a b k = comFrom a b (k + 1) + 1 := by
  unfold comFrom
  rw [drop_data a k ha, drop_data b k hb]
  exact if_pos (UInt8.toNat_inj.1 h)
theorem comFrom_not (a b : ByteArray) (k : Nat) (ha : k < a.size) (hb : k < b.size) (h : a[k].toNat ≠ b[k].toNat) : comFrom a b k = 0 := by
  unfold comFrom
  rw [drop_data a k ha, drop_data b k hb]
  exact if_neg (fun e => h (by rw [e]))
theorem comFrom_end (a b : ByteArray) (k : Nat) (h : k = a.size ∨ k = b.size) : comFrom a b k = 0 := by
  unfold comFrom
  rcases h with h | h
  · rw [drop_all a k h]; rfl
  · rw [drop_all b k h]
    cases a.data.toList.drop k <;> rfl

theorem below_drewN' {w w' : World} (h : Below w.heap.size w w') (n : Nat) : Below w.heap.size w (w'.drewN n) :=
  h.trans (Below.mono (B := w'.heap.size) (show Below w'.heap.size w' (w'.drewN n) from ⟨rfl, rfl, rfl, Nat.le_refl _, fun _ _ => rfl⟩) h.size)

set_option maxHeartbeats 1000000 in
theorem common_any (a b : ByteArray) (w : World) (ha : a.size ≤ maxLen) (hb : b.size ≤ maxLen) :
    Calls Tryd.prog 79 #[.string a, .string b] w fun e w' => e = .returned (.int .i64 (comOf a b : Nat)) ∧ Below w.heap.size w w' := by
  unfold maxLen at ha hb
  go_enter Tryd.func79, Tryd.ntmps79
  go_wp2_with fail
  go_step3
  go_wp2_with fail
  go_step3
  go_wp2_with fail
  go_loopw [5] (fun i W => ∃ k : Nat, k ≤ a.size ∧ k ≤ b.size ∧ i = .int .i64 k ∧ comOf a b = comFrom a b k + k ∧ Below w.heap.size w W) (fun i W => a.size - (intOf i).toNat)
  case atStart => exact ⟨0, by omega, by omega, by go_num, rfl, Below.refl _ _⟩
  case round =>
    obtain ⟨k, hka, hkb, rfl, hc, B⟩ := hrel
    go_wp2_with fail
    · rename_i h _
      rw [Exit.noGoto_ret]
      go_ret
      have hk : k = a.size := by
        have : (k : Int) = a.size := by simpa using h
        omega
      rw [comFrom_end a b k (.inl hk), Nat.zero_add] at hc
      rw [hc]
      exact ⟨rfl, B⟩
    · rename_i _ h _
      rw [Exit.noGoto_ret]
      go_ret
      have hk : k = b.size := by
        have : (k : Int) = b.size := by simpa using h
        omega
      rw [comFrom_end a b k (.inr hk), Nat.zero_add] at hc
      rw [hc]
      exact ⟨rfl, B⟩
    · rename_i h1 h2
      have l1 : k < a.size := by
        have : (k : Int) ≠ a.size := by simpa using h1
        omega
      have l2 : k < b.size := by
        have : (k : Int) ≠ b.size := by simpa using h2
        omega
      by_cases he : a[k].toNat = b[k].toNat
      · have hne : ((a[k].toNat : Int) != (b[k].toNat : Int)) = false := by simp [he]
        rw [comFrom_same a b k l1 l2 he] at hc
        clear he
        go_quiet (fail)
        go_wp2_with fail
        go_roundw
        case rel => exact ⟨k + 1, by omega, by omega, by go_num, by omega, below_drewN' B _⟩
        case measure => simp [intOf]; omega
      · have hne : ((a[k].toNat : Int) != (b[k].toNat : Int)) = true := by simp; omega
        rw [comFrom_not a b k l1 l2 he] at hc
        clear he
        go_quiet (fail)
        go_wp2_with fail
        rw [Exit.noGoto_ret]
        go_ret
        rw [Nat.zero_add] at hc
        rw [hc]
        exact ⟨rfl, below_drewN' B _⟩

end Go.Proofs.YtbdbnpcbbebelaaDoor.Key

namespace Go.Proofs.YtbdbnpcbbebelaaDoor.Key
open Go.RowKit

/-- a ahead of b, the same, behind it -/
def cmpOf (a b : ByteArray) : Int := cmp a.data.toList b.data.toList
/-- both, from place k on -/
def cmpFrom (a b : ByteArray) (k : Nat) : Int := cmp (a.data.toList.drop k) (b.data.toList.drop k)
theorem cmpFrom_zero (a b : ByteArray) : cmpFrom a b 0 = cmpOf a b := rfl
theorem cmpFrom_lt (a b : ByteArray) (k : Nat) (ha : k < a.size) (hb : k < b.size) (h : a[k].toNat < b[k].toNat) : cmpFrom a b k = -1 := by
  unfold cmpFrom
  rw [drop_data a k ha, drop_data b k hb, cmp_cons_lt _ _ h]
theorem cmpFrom_gt (a b : ByteArray) (k : Nat) (ha : k < a.size) (hb : k < b.size) (h : b[k].toNat < a[k].toNat) : cmpFrom a b k = 1 := by
  unfold cmpFrom
  rw [drop_data a k ha, drop_data b k hb, cmp_cons_gt _ _ h]
theorem cmpFrom_same (a b : ByteArray) (k : Nat) (ha : k < a.size) (hb : k < b.size) (h : a[k].toNat = b[k].toNat) : cmpFrom a b k = cmpFrom a b (k + 1) := by
  unfold cmpFrom
  rw [drop_data a k ha, drop_data b k hb, UInt8.toNat_inj.1 h, cmp_cons_same]
theorem cmpFrom_end (a b : ByteArray) (k : Nat) (ha : k ≤ a.size) (hb : k ≤ b.size) (h : k = a.size ∨ k = b.size) : cmpFrom a b k = if a.size < b.size then -1 else if b.size < a.size then 1 else 0 := by
  unfold cmpFrom
  by_cases h1 : k = a.size <;> by_cases h2 : k = b.size
  · rw [drop_all a k h1, drop_all b k h2, if_neg (by omega), if_neg (by omega)]; rfl
  · rw [drop_all a k h1, drop_data b k (by omega), if_pos (by omega)]; rfl
  · rw [drop_data a k (by omega), drop_all b k h2, if_neg (by omega), if_pos (by omega)]; rfl
  · omega

set_option maxHeartbeats 1000000 in
theorem rcompare_any (a b : ByteArray) (w : World) (ha : a.size ≤ maxLen) (hb : b.size ≤ maxLen) :
    Calls Tryd.prog 34 #[.string a, .string b] w fun e w' => e = .returned (.int .i64 (cmpOf a b)) ∧ Below w.heap.size w w' := by
  unfold maxLen at ha hb
  go_enter Tryd.func34, Tryd.ntmps34
  go_wp2_with fail
  go_loopw [5] (fun i W => ∃ k : Nat, k ≤ a.size ∧ k ≤ b.size ∧ i = .int .i64 k ∧ cmpOf a b = cmpFrom a b k ∧ Below w.heap.size w W) (fun i W => a.size - (intOf i).toNat)
  case atStart => exact ⟨0, by omega, by omega, by go_num, rfl, Below.refl _ _⟩
  case round =>
    obtain ⟨k, hka, hkb, rfl, hc, B⟩ := hrel
    by_cases h1 : k < a.size
    · by_cases h2 : k < b.size
      · obtain ⟨x, hx⟩ : ∃ x, x = a[k].toNat := ⟨_, rfl⟩
        obtain ⟨y, hy⟩ : ∃ y, y = b[k].toNat := ⟨_, rfl⟩
        have X := Lib.hid hx
        have Y := Lib.hid hy
        rcases Nat.lt_trichotomy a[k].toNat b[k].toNat with he | he | he
        · rw [cmpFrom_lt a b k h1 h2 he] at hc
          have g3 : decide ((a[k].toNat : Int) < (b[k].toNat : Int)) = true := by simp; omega
          go_wp2_with fail
          go_quiet (fail)
          go_wp2_with fail
          go_ret
          rw [hc]
          exact ⟨rfl, below_drewN' B _⟩
        · rw [cmpFrom_same a b k h1 h2 he] at hc
          have g3 : decide ((a[k].toNat : Int) < (b[k].toNat : Int)) = false := by simp; omega
          have g4 : decide ((a[k].toNat : Int) > (b[k].toNat : Int)) = false := by simp; omega
          go_wp2_with fail
          go_quiet (fail)
          go_wp2_with fail
          go_quiet (fail)
          go_wp2_with fail
          go_roundw
          case rel => exact ⟨k + 1, by omega, by omega, by go_num, hc, below_drewN' B _⟩
          case measure => simp [intOf]; omega
        · rw [cmpFrom_gt a b k h1 h2 he] at hc
          have g3 : decide ((a[k].toNat : Int) < (b[k].toNat : Int)) = false := by simp; omega
          have g4 : decide ((a[k].toNat : Int) > (b[k].toNat : Int)) = true := by simp; omega
          go_wp2_with fail
          go_quiet (fail)
          go_wp2_with fail
          go_quiet (fail)
          go_wp2_with fail
          go_ret
          rw [hc]
          exact ⟨rfl, below_drewN' (below_drewN' B _) _⟩
      · have g2 : decide (k < b.size) = false := by simp; omega
        rw [cmpFrom_end a b k hka hkb (.inr (by omega)), if_neg (by omega), if_pos (by omega)] at hc
        go_wp2_with fail
        all_goals first | (exfalso; omega) | skip
        go_ret
        rw [hc]
        exact ⟨rfl, B⟩
    · have g1 : decide (k < a.size) = false := by simp; omega
      have hka2 : k = a.size := by omega
      rw [cmpFrom_end a b k hka hkb (.inl (by omega))] at hc
      have C := Lib.hid hc
      clear hc
      go_wp2_with fail
      · go_ret
        rw [C.out, if_pos (by omega)]
        exact ⟨rfl, B⟩
      · go_ret
        rw [C.out, if_neg (by omega), if_neg (by omega)]
        exact ⟨rfl, B⟩

end Go.Proofs.YtbdbnpcbbebelaaDoor.Key

namespace Go.Proofs.YtbdbnpcbbebelaaDoor.Key
open Go.RowKit

/-- whether k is within: from f on, ahead of t, an empty one is no end -/
def within (k f t : ByteArray) : Bool := decide (0 ≤ cmpOf k f) && (decide (t.toList = []) || decide (cmpOf k t < 0))

theorem cmpOf_range (a b : ByteArray) : -1 ≤ cmpOf a b ∧ cmpOf a b ≤ 1 := cmp_range _ _

theorem clone_any (s : ByteArray) (w : World) (hs : s.size ≤ 281474976710656) :
    Calls Tryd.prog 66 #[.string s] w fun e w' => e = .returned (.string s) ∧ Below w.heap.size w w' := by
  go_enter Tryd.func66, Tryd.ntmps66
  go_wp2_with (go_at_call 77; refine (Tryd.stringslite_Clone _ _ hs).mono ?_; rintro e w' ⟨rfl, hb⟩)
  go_ret
  exact ⟨rfl, hb⟩

theorem cut_low (s : ByteArray) (i : Nat) (h : i ≤ s.size) (W : World) : (Instr.sliceAt 9 (.string s) none (some (.int .i64 (i : Int))) none).run Tryd.prog W = .ok (.string (s.extract 0 i)) W := by
  rw [run_sliceAt_string (P := Tryd.prog) W 9 _ _ _ _ Tryd.underlying9, run_slice_string_h (P := Tryd.prog) W 9 s Tryd.underlying9 .i64 (i : Int) (by omega) (by omega), Int.toNat_natCast]

/-- what is between a and b, and whether there is -/
def between (a b : ByteArray) : ByteArray := if cmpOf a b < 0 then b.extract 0 (comOf a b + 1) else ⟨#[]⟩
theorem comOf_le (a b : ByteArray) : comOf a b ≤ a.size ∧ comOf a b ≤ b.size := by
  have h := com_le a.data.toList b.data.toList
  rw [len_data, len_data] at h
  exact h
theorem comOf_lt (a b : ByteArray) (h : cmpOf a b < 0) : comOf a b < b.size := by
  have h := com_lt a.data.toList b.data.toList h
  rw [len_data] at h
  exact h

set_option maxHeartbeats 1000000 in
theorem between_any (a b : ByteArray) (w : World) (ha : a.size ≤ maxLen) (hb : b.size ≤ 281474976710656) :
    Calls Tryd.prog 70 #[.string a, .string b] w fun e w' => e = .returned (.tuple #[.string (between a b), .bool (decide (cmpOf a b < 0))]) ∧ Below w.heap.size w w' := by
  have hb2 : b.size ≤ maxLen := by unfold maxLen; omega
  have q1 := fun w => compare_any a b w
  change ∀ w, Calls Tryd.prog 63 #[.string a, .string b] w fun e w' => e = .returned (.int .i64 (cmpOf a b)) ∧ w = w' at q1
  have q2 := fun w => common_any a b w ha hb2
  have l := comOf_lt a b
  have r := cmpOf_range a b
  unfold between
  by_cases h : cmpOf a b < 0
  · have hl := l h
    rw [if_pos h, decide_eq_true h]
    generalize cmpOf a b = x at *
    generalize comOf a b = n at *
    have c := cut_low b (n + 1) (by omega)
    have z : (b.extract 0 (n + 1)).size ≤ 281474976710656 := by rw [ByteArray.size_extract]; omega
    have e1 : ((n + 1 : Nat) : Int) = (n : Int) + 1 := by omega
    rw [e1] at c
    generalize b.extract 0 (n + 1) = y at *
    have p1 := Lib.hid q1
    have p2 := Lib.hid q2
    clear q1 q2 l e1
    go_enter Tryd.func70, Tryd.ntmps70
    go_wp2_with fail
    refine (p1.out _).mono ?_
    rintro e w1 ⟨rfl, rfl⟩
    go_wp2_with fail
    refine (p2.out _).mono ?_
    rintro e w2 ⟨rfl, b2⟩
    go_wp2_with fail
    refine (clone_any _ _ z).mono ?_
    rintro e w3 ⟨rfl, b3⟩
    go_wp2_with fail
    go_ret2
    exact ⟨rfl, b2.trans (b3.mono b2.size)⟩
  · rw [if_neg h, decide_eq_false h]
    generalize cmpOf a b = x at *
    have p1 := Lib.hid q1
    clear q1 q2 l
    go_enter Tryd.func70, Tryd.ntmps70
    go_wp2_with fail
    refine (p1.out _).mono ?_
    rintro e w1 ⟨rfl, rfl⟩
    go_wp2_with fail
    go_ret2
    exact ⟨rfl, Below.refl _ _⟩

end Go.Proofs.YtbdbnpcbbebelaaDoor.Key
