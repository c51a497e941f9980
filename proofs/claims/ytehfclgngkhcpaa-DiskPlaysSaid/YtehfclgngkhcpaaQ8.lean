/- Whole contracts of both disks: one answer, one disk behind it. -/
import Derived.Test.YtehfclgngkhcpaaQ7
namespace Go.Proofs.Ytehfclgngkhcpaa.Disk
open Go.RowKit
attribute [local go_sem ↓] Go.wp_at_zero Go.wp_at_succ

def wCode (d : D) (k : Int) (s : ByteArray) : Int := if d.fuse = 0 then 40 else if hasB d.sure.length k = false ∨ s.size ≠ 128 then 2 else 0
def wRes (d : D) (k : Int) (s : ByteArray) : D := if d.fuse = 0 then d else if hasB d.sure.length k = false ∨ s.size ≠ 128 then d else d.write k.toNat s.data.toList
def sCode (d : D) : Int := if d.fuse = 0 then 40 else 0
def sRes (d : D) : D := if d.fuse = 0 then d else d.sync
def fCode (n : Int) : Int := if n < 0 then 2 else 0
def fRes (d : D) (n : Int) : D := if n < 0 then d else d.setFuse n
def rCode (d : D) (k : Int) : Int := if d.fuse = 0 then 40 else if hasB d.sure.length k = false then 2 else 0
def rText (d : D) (k : Int) : ByteArray := if d.fuse = 0 then ⟨#[]⟩ else if hasB d.sure.length k = false then ⟨#[]⟩ else ⟨(now d k.toNat).toArray⟩

theorem hasB_nat {n : Nat} {k : Int} (h : ¬ hasB n k = false) : ∃ j : Nat, k = (j : Int) ∧ j < n ∧ k.toNat = j := by
  unfold hasB at h
  simp at h
  exact ⟨k.toNat, by omega, by omega, rfl⟩

section
variable {w : World} {p : Nat} {d : D} {F : Nat → Prop}
set_option maxRecDepth 100000 in
theorem write_tot (h : Rep w p d F) (k : Int) (s : ByteArray) (hl : d.loose.length ≤ 1000000000) :
    Calls Try.prog 17 #[.pointer (some ⟨p, 0, none⟩), .int .i64 k, .string s] w fun e w' => e = .returned (.int .i64 (wCode d k s)) ∧ (Rep w' p (wRes d k s) (grew F w w') ∧ Touch F w w') := by
  unfold wCode wRes
  by_cases h0 : d.fuse = 0
  · simp only [if_pos h0]
    refine (write_down h h0 k s).mono ?_
    rintro e w' ⟨rfl, rfl⟩
    exact ⟨rfl, h.grown _, Touch.refl _ _⟩
  · simp only [if_neg h0]
    by_cases h1 : hasB d.sure.length k = false ∨ s.size ≠ 128
    · simp only [if_pos h1]
      refine (write_arg h h0 k s h1).mono ?_
      rintro e w' ⟨rfl, rfl⟩
      exact ⟨rfl, h.grown _, Touch.refl _ _⟩
    · simp only [if_neg h1]
      obtain ⟨j, hj, hlt, hjn⟩ := hasB_nat (fun h => h1 (.inl h))
      rw [hjn, hj]
      exact write_any h h0 hlt s (Classical.byContradiction fun h => h1 (.inr h)) hl
set_option maxRecDepth 100000 in
theorem qwrite_tot (h : QRep w p d F) (k : Int) (s : ByteArray) (hl : d.loose.length ≤ 1000000000) :
    Calls Try.prog 58 #[.pointer (some ⟨p, 0, none⟩), .int .i64 k, .string s] w fun e w' => e = .returned (.int .i64 (wCode d k s)) ∧ (QRep w' p (wRes d k s) (grew F w w') ∧ Touch F w w') := by
  unfold wCode wRes
  by_cases h0 : d.fuse = 0
  · simp only [if_pos h0]
    refine (qwrite_down h h0 k s).mono ?_
    rintro e w' ⟨rfl, rfl⟩
    exact ⟨rfl, h.grown _, Touch.refl _ _⟩
  · simp only [if_neg h0]
    by_cases h1 : hasB d.sure.length k = false ∨ s.size ≠ 128
    · simp only [if_pos h1]
      refine (qwrite_arg h h0 k s h1).mono ?_
      rintro e w' ⟨rfl, rfl⟩
      exact ⟨rfl, h.grown _, Touch.refl _ _⟩
    · simp only [if_neg h1]
      obtain ⟨j, hj, hlt, hjn⟩ := hasB_nat (fun h => h1 (.inl h))
      rw [hjn, hj]
      exact qwrite_any h h0 hlt s (Classical.byContradiction fun h => h1 (.inr h)) hl
set_option maxRecDepth 100000 in
theorem sync_tot (h : Rep w p d F) (hl : d.loose.length ≤ 1000000000) :
    Calls Try.prog 41 #[.pointer (some ⟨p, 0, none⟩)] w fun e w' => e = .returned (.int .i64 (sCode d)) ∧ (Rep w' p (sRes d) (grew F w w') ∧ Touch F w w') := by
  unfold sCode sRes
  by_cases h0 : d.fuse = 0
  · simp only [if_pos h0]
    refine (sync_down h h0).mono ?_
    rintro e w' ⟨rfl, rfl⟩
    exact ⟨rfl, h.grown _, Touch.refl _ _⟩
  · simp only [if_neg h0]
    refine (sync_any h h0 (by omega)).mono ?_
    rintro e w' ⟨rfl, h1, t⟩
    exact ⟨rfl, h1.grown _, t⟩
set_option maxRecDepth 100000 in
theorem qsync_tot (h : QRep w p d F) (hl : d.loose.length ≤ 1000000000) :
    Calls Try.prog 53 #[.pointer (some ⟨p, 0, none⟩)] w fun e w' => e = .returned (.int .i64 (sCode d)) ∧ (QRep w' p (sRes d) (grew F w w') ∧ Touch F w w') := by
  unfold sCode sRes
  by_cases h0 : d.fuse = 0
  · simp only [if_pos h0]
    refine (qsync_down h h0).mono ?_
    rintro e w' ⟨rfl, rfl⟩
    exact ⟨rfl, h.grown _, Touch.refl _ _⟩
  · simp only [if_neg h0]
    refine (qsync_any h h0 (by omega)).mono ?_
    rintro e w' ⟨rfl, h1, t⟩
    exact ⟨rfl, h1.grown _, t⟩
set_option maxRecDepth 100000 in
theorem fuse_tot (h : Rep w p d F) (n : Int) (hn : n ≤ 9223372036854775807) :
    Calls Try.prog 43 #[.pointer (some ⟨p, 0, none⟩), .int .i64 n] w fun e w' => e = .returned (.int .i64 (fCode n)) ∧ (Rep w' p (fRes d n) (grew F w w') ∧ Touch F w w') := by
  unfold fCode fRes
  by_cases h0 : n < 0
  · simp only [if_pos h0]
    refine (fuse_arg h h0).mono ?_
    rintro e w' ⟨rfl, rfl⟩
    exact ⟨rfl, h.grown _, Touch.refl _ _⟩
  · simp only [if_neg h0]
    refine (fuse_any h (by omega) hn).mono ?_
    rintro e w' ⟨rfl, h1, t⟩
    exact ⟨rfl, h1.grown _, t⟩
set_option maxRecDepth 100000 in
theorem qfuse_tot (h : QRep w p d F) (n : Int) (hn : n ≤ 9223372036854775807) :
    Calls Try.prog 55 #[.pointer (some ⟨p, 0, none⟩), .int .i64 n] w fun e w' => e = .returned (.int .i64 (fCode n)) ∧ (QRep w' p (fRes d n) (grew F w w') ∧ Touch F w w') := by
  unfold fCode fRes
  by_cases h0 : n < 0
  · simp only [if_pos h0]
    refine (qfuse_arg h h0).mono ?_
    rintro e w' ⟨rfl, rfl⟩
    exact ⟨rfl, h.grown _, Touch.refl _ _⟩
  · simp only [if_neg h0]
    refine (qfuse_any h (by omega) hn).mono ?_
    rintro e w' ⟨rfl, h1, t⟩
    exact ⟨rfl, h1.grown _, t⟩
set_option maxRecDepth 100000 in
theorem read_tot (h : Rep w p d F) (k : Int) :
    Calls Try.prog 42 #[.pointer (some ⟨p, 0, none⟩), .int .i64 k] w fun e w' => e = .returned (.tuple #[.string (rText d k), .int .i64 (rCode d k)]) ∧ w = w' := by
  unfold rText rCode
  by_cases h0 : d.fuse = 0
  · simp only [if_pos h0]
    exact read_down h h0 k
  · simp only [if_neg h0]
    by_cases h1 : hasB d.sure.length k = false
    · simp only [if_pos h1]
      exact read_arg h h0 k h1
    · simp only [if_neg h1]
      obtain ⟨j, hj, hlt, hjn⟩ := hasB_nat h1
      rw [hjn, hj]
      exact read_any h h0 hlt
set_option maxRecDepth 100000 in
theorem qread_tot (h : QRep w p d F) (k : Int) (hl : d.loose.length ≤ 1000000000) :
    Calls Try.prog 54 #[.pointer (some ⟨p, 0, none⟩), .int .i64 k] w fun e w' => e = .returned (.tuple #[.string (rText d k), .int .i64 (rCode d k)]) ∧ w = w' := by
  unfold rText rCode
  by_cases h0 : d.fuse = 0
  · simp only [if_pos h0]
    exact qread_down h h0 k
  · simp only [if_neg h0]
    by_cases h1 : hasB d.sure.length k = false
    · simp only [if_pos h1]
      exact qread_arg h h0 k h1
    · simp only [if_neg h1]
      obtain ⟨j, hj, hlt, hjn⟩ := hasB_nat h1
      rw [hjn, hj]
      exact qread_any h h0 (by omega) hlt
end

end Go.Proofs.Ytehfclgngkhcpaa.Disk
