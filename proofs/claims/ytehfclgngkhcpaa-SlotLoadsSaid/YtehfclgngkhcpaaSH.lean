/- Walks: Heavy. -/
import Derived.Test.YtehfclgngkhcpaaSF
import Derived.BigQuiet
import Derived.Deep.QuietTactic
import Derived.IntWalk
namespace Go.Proofs.Ytehfclgngkhcpaa.Slot
open Go.RowKit

def weight (l : List Cl) : Nat := (l.map fun c => c.s.size).sum
theorem weight_take (l : List Cl) (k : Nat) (h : k < l.length) : weight (l.take (k + 1)) = weight (l.take k) + l[k].s.size := by
  unfold weight
  rw [List.take_succ_eq_append_getElem h, List.map_append, List.sum_append]
  simp
theorem weight_le : ∀ (l : List Cl), (∀ c ∈ l, c.s.size ≤ 140737488351232) → weight l ≤ l.length * 140737488351232
  | [], _ => by simp [weight]
  | c :: r, h => by
    have h1 := weight_le r (fun x hx => h x (by simp [hx]))
    have h2 := h c (by simp)
    have e : weight (c :: r) = c.s.size + weight r := by simp [weight]
    rw [e, List.length_cons]
    omega
theorem weight_mem {l : List Cl} {c : Cl} (h : c ∈ l) : c.s.size ≤ weight l := by
  induction l with
  | nil => cases h
  | cons x r ih =>
    have e : weight (x :: r) = x.s.size + weight r := by simp [weight]
    rcases List.mem_cons.1 h with rfl | h
    · omega
    · have := ih h; omega

def HeavyPost (l : List Cl) (w : World) (e : Ending) (w' : World) : Prop := ∃ b, e = .returned (.bool b) ∧ (b = false → l.length ≤ 100 ∧ weight l ≤ 8192) ∧ w = w'

set_option maxRecDepth 100000 in
set_option maxHeartbeats 2000000 in
theorem heavy_any {w : World} {v : Value} {l : List Cl} (hc : IsCalls w v l) (hl : l.length ≤ 140737488351232) :
    Calls Try.prog 24 #[v] w (HeavyPost l w) := by
  have HC := Lib.hid hc
  obtain ⟨a, cap, rfl, _⟩ := hc
  go_enter Try.func24, Try.ntmps24
  go_wp2_with fail
  go_loop [3, 4] (fun n i => ∃ k : Nat, k ≤ l.length ∧ i = .int .i64 k ∧ n = .int .i64 (weight (l.take k) : Nat) ∧ weight (l.take k) ≤ 8192) (fun _ i => l.length - (intOf i).toNat)
  case atStart => exact ⟨0, by omega, by go_num, rfl, by simp [weight]⟩
  case round =>
    obtain ⟨k, hk, rfl, rfl, hw⟩ := hrel
    by_cases hlt : k < l.length
    · obtain ⟨x, o, cap', hv, hcl⟩ := HC.out.at hlt
      simp at hv
      obtain ⟨rfl, rfl⟩ := hv
      have wt := weight_take l k hlt
      have c2 := hcl.c2
      have s1 := hcl.s
      generalize hA : weight (l.take k) = A at *
      generalize hS : l[k].s = S at *
      have b0 : (0 : Int) ≤ (k : Int) := Int.natCast_nonneg _
      have b1 : (k : Int) < (l.length : Int) := by omega
      have a0 : (A : Int) ≤ 8192 := by omega
      have a1 : (0 : Int) ≤ (A : Int) := Int.natCast_nonneg _
      have s0 : (S.size : Int) ≤ 140737488351232 := by omega
      have E := Lib.hid (show (A : Int) + (S.size : Int) = ((weight (l.take (k + 1)) : Nat) : Int) by rw [wt]; omega)
      have WT := Lib.hid wt
      by_cases hb : 8192 < A + S.size
      · have e2 : decide ((8192 : Int) < (A : Int) + (S.size : Int)) = true := decide_eq_true (by omega)
        have e3 : decide (8192 < A + S.size) = true := decide_eq_true hb
        clear hcl wt hw s1 hb hA hS
        go_wp2_with fail
        go_ret
        exact ⟨true, rfl, by simp, rfl⟩
      · have e2 : decide ((8192 : Int) < (A : Int) + (S.size : Int)) = false := decide_eq_false (by omega)
        have e3 : decide (8192 < A + S.size) = false := decide_eq_false hb
        have HB := Lib.hid hb
        clear hcl wt hw s1 hb hA hS
        go_wp2_with fail
        go_round
        case rel => exact ⟨k + 1, by omega, by go_num, by rw [← E.out], by rw [WT.out]; have := HB.out; omega⟩
        case measure => simp [intOf]; omega
    · obtain rfl : k = l.length := by omega
      rw [List.take_length] at hw ⊢
      have HW := Lib.hid hw
      clear hw
      by_cases h100 : l.length ≤ 100
      · have e1 : decide ((100 : Int) < (l.length : Int)) = false := decide_eq_false (by omega)
        have e2 : decide (100 < l.length) = false := decide_eq_false (by omega)
        have H1 := Lib.hid h100
        clear h100
        go_wp2_with fail
        go_ret
        exact ⟨false, rfl, fun _ => ⟨H1.out, HW.out⟩, rfl⟩
      · have e1 : decide ((100 : Int) < (l.length : Int)) = true := decide_eq_true (by omega)
        have e2 : decide (100 < l.length) = true := decide_eq_true (by omega)
        clear h100
        go_wp2_with fail
        go_ret
        exact ⟨true, rfl, by simp, rfl⟩

end Go.Proofs.Ytehfclgngkhcpaa.Slot
