/- Walks: Heavy. -/
import Derived.Test.YtehfclgngkhcpaaDF
import Derived.BigQuiet
import Derived.Deep.QuietTactic
import Derived.IntWalk
namespace Go.Proofs.Ytehfclgngkhcpaa.Disk
open Go.RowKit

def weight (l : List Cl) : Nat := (l.map fun c => c.s.size + c.keep.length).sum
theorem weight_take (l : List Cl) (k : Nat) (h : k < l.length) : weight (l.take (k + 1)) = weight (l.take k) + l[k].s.size + l[k].keep.length := by
  unfold weight
  rw [List.take_succ_eq_append_getElem h, List.map_append, List.sum_append]
  simp
  omega
theorem weight_le : ∀ (l : List Cl), (∀ c ∈ l, c.s.size ≤ 140737488351232 ∧ c.keep.length ≤ 140737488351232) → weight l ≤ l.length * 281474976702464
  | [], _ => by simp [weight]
  | c :: r, h => by
    have h1 := weight_le r (fun x hx => h x (by simp [hx]))
    have h2 := h c (by simp)
    have e : weight (c :: r) = c.s.size + c.keep.length + weight r := by simp [weight]
    rw [e, List.length_cons]
    omega
theorem weight_mem {l : List Cl} {c : Cl} (h : c ∈ l) : c.s.size + c.keep.length ≤ weight l := by
  induction l with
  | nil => cases h
  | cons x r ih =>
    have e : weight (x :: r) = x.s.size + x.keep.length + weight r := by simp [weight]
    rcases List.mem_cons.1 h with rfl | h
    · omega
    · have := ih h; omega

def HeavyPost (l : List Cl) (w : World) (e : Ending) (w' : World) : Prop := ∃ b, e = .returned (.bool b) ∧ (b = false → l.length ≤ 100 ∧ weight l ≤ 8192) ∧ ∃ n, w' = w.drewN n

theorem IsCalls.at {w : World} {v : Value} {l : List Cl} (h : IsCalls w v l) {k : Nat} (hk : k < l.length) : ∃ x o cap, v = .slice (some ⟨x, o, none⟩) l.length cap ∧ ClAt w x (o + k * 7) l[k] := by
  obtain ⟨a, cap, hv, hc⟩ := h
  obtain ⟨x, o, ha, h1⟩ := hc k l[k] (List.getElem?_eq_getElem hk)
  exact ⟨x, o, cap, by rw [hv, ha], h1⟩
theorem ClAt.kv {w : World} {x o : Nat} {c : Cl} (h : ClAt w x o c) : ∃ a n, c.kv = .slice a c.keep.length n := by
  obtain ⟨a, n, hv, _⟩ := h.keep
  exact ⟨a, n, hv⟩

set_option maxRecDepth 100000 in
set_option maxHeartbeats 2000000 in
theorem heavy_any {w : World} {v : Value} {l : List Cl} (hc : IsCalls w v l) (hl : l.length ≤ 140737488351232) :
    Calls Try.prog 9 #[v] w (HeavyPost l w) := by
  have HC := Lib.hid hc
  obtain ⟨a, cap, rfl, _⟩ := hc
  by_cases h100 : l.length ≤ 100
  · have hbig : ∀ k, weight (l.take k) ≤ 28147497670246400 := fun k => by
      have h1 := weight_le (l.take k) (fun c hcm => by
        obtain ⟨i, hi, rfl⟩ := List.getElem_of_mem (List.mem_of_mem_take hcm)
        obtain ⟨_, _, _, _, h2⟩ := HC.out.at hi
        exact ⟨h2.s, h2.keepn⟩)
      rw [List.length_take] at h1
      have h2 : min k l.length ≤ 100 := by omega
      generalize min k l.length = z at *
      omega
    have HB := Lib.hid hbig
    clear hbig
    go_enter Try.func9, Try.ntmps9
    go_wp2_with fail
    go_loopw [3, 4] (fun n i wr => ∃ k : Nat, k ≤ l.length ∧ i = .int .i64 k ∧ n = .int .i64 (weight (l.take k) : Nat) ∧ ∃ m, wr = w.drewN m) (fun _ i _ => l.length - (intOf i).toNat)
    case atStart => exact ⟨0, by omega, by go_num, rfl, 0, rfl⟩
    case round =>
      obtain ⟨k, hk, rfl, rfl, m, rfl⟩ := hrel
      have hb0 := HB.out k
      by_cases hlt : k < l.length
      · obtain ⟨x, o, cap', hv, hcl⟩ := HC.out.at hlt
        simp at hv
        obtain ⟨rfl, rfl⟩ := hv
        have wt := weight_take l k hlt
        have hb1 := HB.out (k + 1)
        obtain ⟨ka, kc, hkv⟩ := hcl.kv
        have c4 := hcl.c4
        have c6 := hcl.c6
        rw [hkv] at c6
        have s1 := hcl.s
        have s2 := hcl.keepn
        rw [wt] at hb1
        generalize weight (l.take k) = A at *
        generalize hS : l[k].s = S at *
        generalize hK : l[k].keep.length = K at *
        have W1 : IntKind.i64.wrap ((A : Int) + (S.size : Int)) = (A : Int) + (S.size : Int) := IntWalk.i64_in _ (by omega)
        have W2 : IntKind.i64.wrap ((A : Int) + (S.size : Int) + (K : Int)) = (A : Int) + (S.size : Int) + (K : Int) := IntWalk.i64_in _ (by omega)
        have b0 : (0 : Int) ≤ (k : Int) := Int.natCast_nonneg _
        have b1 : (k : Int) < (l.length : Int) := by omega
        have E := Lib.hid (show (A : Int) + (S.size : Int) + (K : Int) = ((weight (l.take (k + 1)) : Nat) : Int) by rw [wt]; omega)
        clear hkv hcl wt hb0 hb1 s1 s2
        go_wp2_with fail
        go_quiet (fail)
        go_wp2_with fail
        go_roundw
        case rel => exact ⟨k + 1, by omega, by go_num, by rw [← E.out], _, rfl⟩
        case measure => simp [intOf]; omega
      · obtain rfl : k = l.length := by omega
        rw [List.take_length] at hb0 ⊢
        have e1 : decide ((100 : Int) < (l.length : Int)) = false := decide_eq_false (by omega)
        by_cases hw : 8192 < weight l
        · have e2 : decide ((8192 : Int) < (weight l : Int)) = true := decide_eq_true (by omega)
          clear hb0 hw
          go_wp2_with fail
          go_ret
          exact ⟨true, rfl, by simp, _, rfl⟩
        · have e2 : decide ((8192 : Int) < (weight l : Int)) = false := decide_eq_false (by omega)
          have HP := Lib.hid (show l.length ≤ 100 ∧ weight l ≤ 8192 from ⟨h100, by omega⟩)
          clear hb0 hw
          go_wp2_with fail
          go_ret
          exact ⟨false, rfl, fun _ => HP.out, _, rfl⟩
  · go_enter Try.func9, Try.ntmps9
    go_wp2_with fail
    go_loopw [3, 4] (fun n i wr => ∃ k : Nat, k ≤ l.length ∧ i = .int .i64 k ∧ (∃ N : Int, n = .int .i64 N) ∧ ∃ m, wr = w.drewN m) (fun _ i _ => l.length - (intOf i).toNat)
    case atStart => exact ⟨0, by omega, by go_num, ⟨0, rfl⟩, 0, rfl⟩
    case round =>
      obtain ⟨k, hk, rfl, ⟨N, rfl⟩, m, rfl⟩ := hrel
      by_cases hlt : k < l.length
      · obtain ⟨x, o, cap', hv, hcl⟩ := HC.out.at hlt
        simp at hv
        obtain ⟨rfl, rfl⟩ := hv
        obtain ⟨ka, kc, hkv⟩ := hcl.kv
        have c4 := hcl.c4
        have c6 := hcl.c6
        rw [hkv] at c6
        generalize hS : l[k].s = S at *
        generalize hK : l[k].keep.length = K at *
        have b0 : (0 : Int) ≤ (k : Int) := Int.natCast_nonneg _
        have b1 : (k : Int) < (l.length : Int) := by omega
        clear hkv hcl
        go_wp2_with fail
        go_quiet (fail)
        go_wp2_with fail
        go_roundw
        case rel => exact ⟨k + 1, by omega, by go_num, ⟨_, rfl⟩, _, rfl⟩
        case measure => simp [intOf]; omega
      · obtain rfl : k = l.length := by omega
        have e1 : decide ((100 : Int) < (l.length : Int)) = true := decide_eq_true (by omega)
        go_wp2_with fail
        go_ret
        exact ⟨true, rfl, by simp, _, rfl⟩

end Go.Proofs.Ytehfclgngkhcpaa.Disk
