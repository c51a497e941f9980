/-
  Walks: one step over a bit, and the table.
  Walks: the sum.
  Walks: the document's sum, bit by bit.
  Walks: the number behind a sealed text, and sealing.
-/
import Derived.Test.YtgohpompgiljiaaProg
import Derived.WalkKit
import Derived.WalkSpells
import Derived.WalkLawsBesides
import Derived.Lib.Hide
import Derived.Laws.BitsAllLaws
import Derived.Laws.Rows
import Derived.Laws.CopyOwn
import Derived.Deep.WholeRow
import Derived.Test.YtgohpompgiljiaaZ18
namespace Go.Proofs.Ytgohpompgiljiaa.Sum
open Go.RowKit

theorem ret_int {k : IntKind} {a b : Int} (h : a = b) : Ending.returned (.int k a) = .returned (.int k b) := by rw [h]
theorem ret_bool {a b : Bool} (h : a = b) : Ending.returned (.bool a) = .returned (.bool b) := by rw [h]

theorem half_bits (n : Nat) (hn : n < 4294967296) : bits .xor .u32 ((n : Int) / 2) 2197175160 = ((n / 2 ^^^ 2197175160 : Nat) : Int) := by
  have e : ((n : Int) / 2) = ((n / 2 : Nat) : Int) := by omega
  rw [e]
  exact u32_xor_nat _ 2197175160 (by omega) (by omega)

theorem half_any (n : Nat) (w : World) (hn : n < 4294967296) :
    Calls Try.prog 80 #[.int .u32 (n : Int)] w fun e w' => e = .returned (.int .u32 (hf n : Nat)) ∧ w = w' := by
  by_cases h : n % 2 = 1
  · have h1 : ((n : Int) % 2 == 1) = true := by simp; omega
    have e := Lib.hid (show hf n = n / 2 ^^^ 2197175160 by unfold hf; rw [if_pos h])
    clear h
    go_enter Try.func80, Try.ntmps80
    go_wp2
    go_ret
    exact ⟨ret_int (by rw [e.out, half_bits n hn]), rfl⟩
  · have h1 : ((n : Int) % 2 == 1) = false := by simp; omega
    have e := Lib.hid (show hf n = n / 2 by unfold hf; rw [if_neg h])
    clear h
    go_enter Try.func80, Try.ntmps80
    go_wp2
    go_ret
    exact ⟨ret_int (by rw [e.out]; omega), rfl⟩

/-- an array of 256 numbers -/
def rowOf (f : Nat → Nat) : Array Value := ((List.range 256).map fun j => Value.int .u32 (f j : Nat)).toArray
/-- the table -/
def tabC : Array Value := rowOf (H 8)
/-- a new array's cells -/
def zeroC : Array Value := rowOf fun _ => 0

theorem rowOf_size (f : Nat → Nat) : (rowOf f).size = 256 := by simp [rowOf]
theorem rowOf_get (f : Nat → Nat) {j : Nat} (h : j < 256) : (rowOf f)[j]? = some (.int .u32 (f j : Nat)) := by simp [rowOf, h]
theorem rowOf_set (f : Nat → Nat) (i v : Nat) : (rowOf f).setIfInBounds i (.int .u32 (v : Nat)) = rowOf (fun j => if j = i then v else f j) := by
  apply Array.ext_getElem?
  intro j
  rw [Array.getElem?_setIfInBounds]
  by_cases hj : j < 256
  · rw [rowOf_get _ hj, rowOf_get _ hj, rowOf_size]
    by_cases e : i = j
    · subst e; simp [hj]
    · have e' : ¬ j = i := fun h => e h.symm
      simp [e, e']
  · have h1 : (rowOf f)[j]? = none := by rw [Array.getElem?_eq_none]; rw [rowOf_size]; omega
    have h2 : (rowOf (fun j => if j = i then v else f j))[j]? = none := by rw [Array.getElem?_eq_none]; rw [rowOf_size]; omega
    rw [h1, h2, rowOf_size]
    split
    · rw [if_neg (by omega)]
    · rfl
theorem rowOf_ext {f g : Nat → Nat} (h : ∀ j, j < 256 → f j = g j) : rowOf f = rowOf g := by
  unfold rowOf
  congr 1
  apply List.map_congr_left
  intro j hj
  rw [h j (by simpa using hj)]
theorem rowOf_one (f : Nat → Nat) : (rowOf f).all (·.oneCell') = true := by
  apply Array.all_eq_true_iff_forall_mem.2
  intro v hv
  simp only [rowOf, List.mem_toArray, List.mem_map] at hv
  obtain ⟨j, _, rfl⟩ := hv
  rfl

theorem zeroTAB (w : World) : (zeroValue 141).run Try.prog w = .ok (.agg zeroC) w := by kernel_rfl
theorem infoTAB : (Try.prog.info? 141).map (·.size) = some 256 := by kernel_rfl
theorem sizeTAB : (Try.prog.info? 141).map (·.size) = some tabC.size := by rw [infoTAB, tabC, rowOf_size]
theorem zero_tab : zeroC.size = tabC.size := by rw [tabC, zeroC, rowOf_size, rowOf_size]
theorem tab_one : tabC.all (·.oneCell') = true := rowOf_one _
theorem allocTAB (w : World) : (Instr.alloc 141 true (.tuple #[])).run Try.prog w = .ok (.pointer (some ⟨w.heap.size, 0, none⟩)) (w.alloc (.cells zeroC 141 (0, 0))) := by
  simp only [Instr.alloc, Sem.run_bind, zeroTAB]
  rfl

/-- the two arrays of the table's call: the result's, as it was made, and the one that is filled -/
def TabW (h : Nat) (w wr : World) (f : Nat → Nat) : Prop :=
  wr.heap[h]? = some (.cells zeroC 141 (0, 0)) ∧ wr.heap[h + 1]? = some (.cells (rowOf f) 141 (0, 0)) ∧ Below h w wr
theorem TabW.start (w : World) : TabW w.heap.size w ((w.alloc (.cells zeroC 141 (0, 0))).alloc (.cells zeroC 141 (0, 0))) fun _ => 0 :=
  ⟨heap_alloc2_old _ _ _, heap_alloc2_new _ _ _, ((Below.refl _ _).alloc (Nat.le_refl _) _).alloc (by simp) _⟩
theorem TabW.cell {h : Nat} {w wr : World} {f : Nat → Nat} (hh : TabW h w wr f) {j : Nat} (hj : j < 256) : wr.cell? ⟨h + 1, j, none⟩ = some (.int .u32 (f j : Nat)) := by
  rw [cell_of_row wr _ j _ _ _ hh.2.1, rowOf_get _ hj]
theorem TabW.free {h : Nat} {w wr : World} {f : Nat → Nat} (hh : TabW h w wr f) (j : Nat) : wr.frozen? ⟨h + 1, j, none⟩ = false :=
  frozen_of_row wr _ j _ _ hh.2.1
theorem TabW.set {h : Nat} {w wr : World} {f : Nat → Nat} (hh : TabW h w wr f) (i v : Nat) :
    TabW h w (wr.setCell ⟨h + 1, i, none⟩ (.int .u32 (v : Nat))) (fun j => if j = i then v else f j) := by
  refine ⟨?_, ?_, hh.2.2.setCell (Nat.le_succ _) _⟩
  · rw [heap_setCell_other _ _ _ _ (by simp)]; exact hh.1
  · rw [heap_setCell_same wr _ i _ _ _ hh.2.1, rowOf_set]

/-- what is known of the table's numbers: at the multiples of twice the bit, and, up to m, of the bit -/
def TabF (k m : Nat) (f : Nat → Nat) : Prop := ∀ j, j < 256 → j % (2 * (128 / 2 ^ k)) = 0 ∨ (j % (128 / 2 ^ k) = 0 ∧ j < 2 * (128 / 2 ^ k) * m) → f j = H 8 j

theorem tab_step : ∀ k, k < 8 → ∀ m, m < 128 → 2 * (128 / 2 ^ k) * m < 256 →
    2 * (128 / 2 ^ k) * m + 2 * (128 / 2 ^ k) ≤ 256 ∧ H 8 (2 * (128 / 2 ^ k) * m + 128 / 2 ^ k) = H 8 (2 * (128 / 2 ^ k) * m) ^^^ H (k + 1) 1 := by decide +kernel

theorem bit_pos : ∀ k, k < 8 → 1 ≤ 128 / 2 ^ k := by decide

theorem TabF.step {k m : Nat} {f : Nat → Nat} (hf : TabF k m f) (hk : k < 8) (hm : m < 128) (hl : 2 * (128 / 2 ^ k) * m < 256) :
    TabF k (m + 1) (fun j => if j = 2 * (128 / 2 ^ k) * m + 128 / 2 ^ k then f (2 * (128 / 2 ^ k) * m) ^^^ H (k + 1) 1 else f j) := by
  obtain ⟨h1, h2⟩ := tab_step k hk m hm hl
  have hb := bit_pos k hk
  intro j hj hc
  have h3 : f (2 * (128 / 2 ^ k) * m) = H 8 (2 * (128 / 2 ^ k) * m) := hf _ (by omega) (Or.inl (by simp))
  have ha : 2 * (128 / 2 ^ k) * (m + 1) = 2 * (128 / 2 ^ k) * m + 2 * (128 / 2 ^ k) := by rw [Nat.mul_add, Nat.mul_one]
  show (if j = _ then _ else _) = _
  split
  · rename_i e
    rw [e, h2, h3]
  · rename_i e
    apply hf j hj
    rcases hc with hc | ⟨hc, hlt⟩
    · exact Or.inl hc
    · rw [ha] at hlt
      by_cases hj2 : j < 2 * (128 / 2 ^ k) * m
      · exact Or.inr ⟨hc, hj2⟩
      · left
        generalize 128 / 2 ^ k = B at *
        have e1 : j = B * (j / B) := by have := Nat.div_add_mod j B; omega
        have e2 : 2 * B * m = B * (2 * m) := by rw [Nat.mul_comm 2 B, Nat.mul_assoc]
        have e3 : B * (2 * m) ≤ B * (j / B) := by omega
        have e4 : B * (j / B) < B * (2 * m + 2) := by rw [Nat.mul_add]; omega
        have e5 : 2 * m ≤ j / B := Nat.le_of_mul_le_mul_left e3 hb
        have e6 : j / B < 2 * m + 2 := Nat.lt_of_mul_lt_mul_left e4
        have e7 : j / B = 2 * m ∨ j / B = 2 * m + 1 := by omega
        rcases e7 with e7 | e7
        · rw [e1, e7, ← e2]; simp
        · exfalso
          rw [e7, Nat.mul_add, ← e2] at e1
          omega
theorem TabF.next {k m : Nat} {f : Nat → Nat} (hf : TabF k m f) (_hk : k < 8) (hm : 256 ≤ 2 * (128 / 2 ^ k) * m) : k < 7 → TabF (k + 1) 0 f := by
  intro h7 j hj hc
  have e : ∀ k, k < 7 → 2 * (128 / 2 ^ (k + 1)) = 128 / 2 ^ k := by decide
  rw [e k h7] at hc
  apply hf j hj
  right
  rcases hc with hc | ⟨_, hc⟩
  · exact ⟨hc, by omega⟩
  · rw [Nat.mul_zero] at hc; omega
theorem TabF.last {m : Nat} {f : Nat → Nat} (hf : TabF 7 m f) (hm : 256 ≤ 2 * (128 / 2 ^ 7) * m) : rowOf f = tabC := by
  apply rowOf_ext
  intro j hj
  have e : 128 / 2 ^ 7 = 1 := by decide
  apply hf j hj
  rw [e] at hm ⊢
  exact Or.inr ⟨Nat.mod_one j, by omega⟩

/-- what holds ahead of each bit's round -/
def Outer (h : Nat) (w wr : World) (k : Nat) : Prop := ∃ f, TabW h w wr f ∧ ((k < 8 ∧ TabF k 0 f) ∨ (8 ≤ k ∧ rowOf f = tabC))
theorem Outer.start (w : World) : Outer w.heap.size w ((w.alloc (.cells zeroC 141 (0, 0))).alloc (.cells zeroC 141 (0, 0))) 0 := by
  refine ⟨_, TabW.start w, Or.inl ⟨by omega, ?_⟩⟩
  intro j hj hc
  have e : 2 * (128 / 2 ^ 0) = 256 := by decide
  rw [e] at hc
  rcases hc with hc | ⟨_, hc⟩
  · have : j = 0 := by omega
    subst this; decide
  · omega

set_option maxRecDepth 100000 in
set_option maxHeartbeats 1000000 in
theorem table_any (w : World) : Calls Try.prog 79 #[] w fun e w' => e = .returned (.agg tabC) ∧ Below w.heap.size w w' := by
  have z := zeroTAB
  have al := allocTAB
  have h0 := Lib.hid (Outer.start w)
  go_enter Try.func79, Try.ntmps79
  go_wp2
  go_loopw [2, 3] (fun c b wr => ∃ k B C : Nat, k ≤ 8 ∧ B = 128 / 2 ^ k ∧ C = H k 1 ∧ b = .int .i64 B ∧ c = .int .u32 C ∧ Outer w.heap.size w wr k) (fun _ b _ => (intOf b).toNat)
  case atStart => exact ⟨0, 128, 1, by omega, by decide, by decide, by go_num, by go_num, h0.out⟩
  case round =>
    obtain ⟨k, B, C, hk, hB, hC, rfl, rfl, f0, ht0, hf0⟩ := hrel
    clear h0
    by_cases h8 : k < 8
    · have hb1 := bit_pos k h8
      have hC0 : C < 4294967296 := by rw [hC]; exact H_lt (by omega)
      obtain ⟨D, hD⟩ : ∃ D, D = hf C := ⟨_, rfl⟩
      have hD0 : D < 4294967296 := by rw [hD]; exact hf_lt hC0
      have hcc : D = H (k + 1) 1 := by rw [hD, hC, H_succ]
      have hfk : TabF k 0 f0 := by rcases hf0 with h | h; exact h.2; omega
      have hb2 : B ≤ 128 := by rw [hB]; exact Nat.div_le_self _ _
      have HC := half_any C wr hC0
      rw [← hD] at HC
      have K0 := Lib.hid HC
      have K1 := Lib.hid ht0
      have K2 := Lib.hid hfk
      have K3 := Lib.hid hcc
      have K4 := Lib.hid hB
      rw [← hB] at hb1
      clear hf0 hfk hcc ht0 hB hC hD HC
      go_wp2_with fail
      refine (K0.out).mono ?_
      rintro e w1 ⟨rfl, rfl⟩
      go_wp2_with fail
      go_loopw [4] (fun a wi => ∃ m A : Nat, A = 2 * B * m ∧ A ≤ 256 ∧ a = .int .i64 A ∧ ∃ f, TabW w.heap.size w wi f ∧ TabF k m f) (fun a _ => 256 - (intOf a).toNat)
      case atStart => exact ⟨0, 0, by omega, by omega, by go_num, f0, K1.out, K2.out⟩
      case round =>
        obtain ⟨m, A, hA, hA2, rfl, f, ht, hf⟩ := hrel
        by_cases hlt : A < 256
        · have hm : m < 128 := by
            have e1 : 2 * 1 * m ≤ 2 * B * m := Nat.mul_le_mul_right m (by omega)
            omega
          have hlt2 : 2 * (128 / 2 ^ k) * m < 256 := by rw [← K4.out, ← hA]; exact hlt
          have hst := (tab_step k h8 m hm hlt2).1
          rw [← K4.out, ← hA] at hst
          have hfs := hf.step h8 hm hlt2
          rw [← K4.out, ← hA, ← K3.out] at hfs
          have g1 := ht.cell (j := A) hlt
          have g2 := ht.cell (j := A + B) (by omega)
          have g3 := ht.free (A + B)
          have g4 := ht.set (A + B) (f A ^^^ D)
          have hfa : f A < 4294967296 := by
            have e := hf A hlt (Or.inl (by rw [← K4.out, hA]; simp))
            rw [e]; exact H_lt (by omega)
          have gx := u32_xor_nat (f A) D hfa hD0
          have G1 := Lib.hid g4
          have G2 := Lib.hid hfs
          have G3 := Lib.hid hA
          clear hfs g4 hA ht hf hfa hlt2
          go_wp2_with fail
          go_roundw
          case rel => exact ⟨m + 1, A + 2 * B, by rw [G3.out, Nat.mul_add, Nat.mul_one], by omega, by go_num, _, G1.out, G2.out⟩
          case measure => simp [intOf]; omega
        · have G1 := Lib.hid ht
          have G2 := Lib.hid hf
          have G3 := Lib.hid hA
          clear hA ht hf
          go_wp2_with fail
          go_roundw
          case rel =>
            have hm : 256 ≤ 2 * (128 / 2 ^ k) * m := by rw [← K4.out, ← G3.out]; omega
            refine ⟨k + 1, B / 2, D, by omega, ?_, K3.out, by go_num, by go_num, f, G1.out, ?_⟩
            · rw [K4.out, Nat.pow_succ, Nat.div_div_eq_div_mul]
            · by_cases h7 : k < 7
              · exact Or.inl ⟨Nat.succ_lt_succ h7, G2.out.next h8 hm h7⟩
              · obtain rfl : k = 7 := by omega
                exact Or.inr ⟨Nat.le_refl _, G2.out.last hm⟩
          case measure => simp [intOf]; omega
    · obtain rfl : k = 8 := by omega
      have hB0 : B ≤ 0 := by rw [hB]; decide
      have hff : rowOf f0 = tabC := by rcases hf0 with h | h; omega; exact h.2
      have t1 := ht0.1
      have t2 := ht0.2.1
      have t3 := ht0.2.2
      rw [hff] at t2
      have K1 := Lib.hid t1
      have K2 := Lib.hid t2
      have K3 := Lib.hid t3
      clear hf0 hC hB ht0 t1 t2 t3 hff h8 hk
      go_wp2_with (first | (refine wpList_load_row rfl 141 _ rfl (w.heap.size + 1) rfl 141 tabC (0, 0) _ K2.out Try.underlying141 rfl sizeTAB ?_) | (refine wpList_store_row rfl 141 _ _ rfl w.heap.size tabC rfl rfl 141 zeroC K1.out sizeTAB zero_tab tab_one ?_))
      refine bodyPost_ret (v := .agg tabC) (results_cell_row Try.results79 _ _ w.heap.size 141 tabC (0, 0) _ rfl (setRow_heap _ _ _ _ _ _ K1.out) Try.underlying141 rfl sizeTAB) rfl ⟨rfl, below_setRow K3.out (Nat.le_refl _) _⟩

end Go.Proofs.Ytgohpompgiljiaa.Sum

namespace Go.Proofs.Ytgohpompgiljiaa.Sum
open Go.RowKit

theorem flip_bits (c : Nat) (h : c < 4294967296) : bits .xor .u32 IntKind.u32.max (c : Int) = ((4294967295 ^^^ c : Nat) : Int) := u32_xor_nat 4294967295 c (by omega) h

theorem take_snoc (s : ByteArray) (k : Nat) (h : k < s.size) : s.data.toList.take (k + 1) = s.data.toList.take k ++ [s[k]] := by
  rw [List.take_succ_eq_append_getElem (by simpa using h)]; rfl
theorem run_snoc (c : Nat) (s : ByteArray) (k : Nat) (h : k < s.size) : run c (s.data.toList.take (k + 1)) = H 8 (run c (s.data.toList.take k) ^^^ s[k].toNat) := by
  rw [take_snoc s k h, run_append]; rfl
theorem take_all (s : ByteArray) : s.data.toList.take s.size = s.data.toList := List.take_of_length_le (by simp)
theorem byte_lt (s : ByteArray) (k : Nat) (h : k < s.size) : s[k].toNat < 256 := s[k].toNat_lt

set_option maxRecDepth 100000 in
set_option maxHeartbeats 1000000 in
theorem more_any (c : Nat) (s : ByteArray) (w : World) (hc : c < 4294967296) (hs : s.size ≤ maxLen) :
    Calls Try.prog 73 #[.int .u32 (c : Int), .string s] w fun e w' => e = .returned (.int .u32 (more c s.data.toList : Nat)) ∧ Below w.heap.size w w' := by
  unfold maxLen at hs
  obtain ⟨d, hd⟩ : ∃ d, d = 4294967295 ^^^ c := ⟨_, rfl⟩
  have hd0 : d < 4294967296 := by rw [hd]; exact flip_lt hc
  have hf := flip_bits c hc
  rw [← hd] at hf
  have D := Lib.hid hd
  have z := zeroTAB
  have al := allocTAB
  clear hd
  go_enter Try.func73, Try.ntmps73
  go_wp2_with fail
  refine (table_any w).mono ?_
  rintro e w1 ⟨rfl, b1⟩
  go_wp2_with (refine wpList_store_row rfl 141 _ _ rfl w1.heap.size tabC rfl rfl 141 zeroC (heap_alloc_new w1 _) sizeTAB zero_tab tab_one ?_)
  have hW : ∀ N, N < 256 → ((w1.alloc (.cells zeroC 141)).setRow w1.heap.size tabC).cell? ⟨w1.heap.size, N, none⟩ = some (.int .u32 (H 8 N : Nat)) := by
    intro N hN
    rw [cell_setRow_same _ _ _ _ _ _ _ (heap_alloc_new w1 _), tabC, rowOf_get _ hN]
  have hB : Below w.heap.size w ((w1.alloc (.cells zeroC 141)).setRow w1.heap.size tabC) := below_setRow (b1.alloc b1.size _) b1.size _
  generalize (w1.alloc (.cells zeroC 141)).setRow w1.heap.size tabC = W at *
  generalize w1.heap.size = g at *
  have K1 := Lib.hid hW
  have K2 := Lib.hid hB
  clear hW hB b1 hf
  go_loop [0, 12] (fun x i => ∃ k m : Nat, k ≤ s.size ∧ m < 4294967296 ∧ i = .int .i64 k ∧ x = .int .u32 m ∧ m = run d (s.data.toList.take k)) (fun _ i => s.size - (intOf i).toNat)
  case atStart => exact ⟨0, d, by omega, hd0, by go_num, rfl, by rw [List.take_zero]; rfl⟩
  case round =>
    obtain ⟨k, m, hk, hm, rfl, rfl, hr⟩ := hrel
    by_cases hlt : k < s.size
    · have hb := byte_lt s k hlt
      have hx : bits .xor .u8 ((m : Int) % 256) (s[k].toNat : Int) = ((m % 256 ^^^ s[k].toNat : Nat) : Int) := by
        have := u8_xor_nat (m % 256) s[k].toNat (by omega) hb
        rw [← this]; congr 1
      obtain ⟨N, hN⟩ : ∃ N, N = m % 256 ^^^ s[k].toNat := ⟨_, rfl⟩
      have hN0 : N < 256 := by rw [hN]; exact Nat.xor_lt_two_pow (n := 8) (by omega) (by omega)
      have hT0 : H 8 N < 4294967296 := H_lt (by omega)
      have hcell := K1.out N hN0
      obtain ⟨T, hT⟩ : ∃ T, T = H 8 N := ⟨_, rfl⟩
      rw [← hT] at hcell hT0
      rw [← hN] at hx
      have hy : bits .xor .u32 ((m : Int) / 256) (T : Int) = ((m / 256 ^^^ T : Nat) : Int) := by
        have := u32_xor_nat (m / 256) T (by omega) hT0
        rw [← this]; congr 1
      have hz : m / 256 ^^^ T = run d (s.data.toList.take (k + 1)) := by rw [run_snoc _ _ _ hlt, ← hr, step_table m _ hb, hT, hN]
      have hz0 : m / 256 ^^^ T < 4294967296 := by rw [hz]; exact run_lt hd0 _
      have Z := Lib.hid hz
      clear hz hr hT hN
      go_wp2_with fail
      go_round
      case rel => exact ⟨k + 1, _, by omega, hz0, by go_num, rfl, Z.out⟩
      case measure => simp [intOf]; omega
    · obtain rfl : k = s.size := by omega
      have hf2 := flip_bits m hm
      have hz : 4294967295 ^^^ m = more c s.data.toList := by unfold more; rw [hr, take_all, D.out]
      obtain ⟨q, hq⟩ : ∃ q, q = 4294967295 ^^^ m := ⟨_, rfl⟩
      rw [← hq] at hf2 hz
      have Z := Lib.hid hz
      clear hr hz hq
      go_wp2_with fail
      go_ret
      exact ⟨ret_int (by rw [Z.out]), K2.out⟩

theorem of_any (s : ByteArray) (w : World) (hs : s.size ≤ maxLen) :
    Calls Try.prog 67 #[.string s] w fun e w' => e = .returned (.int .u32 (sumOf s.data.toList : Nat)) ∧ Below w.heap.size w w' := by
  have h := more_any 0 s w (by omega) hs
  go_enter Try.func67, Try.ntmps67
  go_wp2_with fail
  refine h.mono ?_
  rintro e w1 ⟨rfl, b1⟩
  go_wp2_with fail
  go_ret
  exact ⟨rfl, b1⟩

end Go.Proofs.Ytgohpompgiljiaa.Sum

namespace Go.Proofs.Ytgohpompgiljiaa.Sum
open Go.RowKit

theorem flip_bits2 (c : Nat) (h : c < 4294967296) : bits .xor .u32 (c : Int) 4294967295 = ((4294967295 ^^^ c : Nat) : Int) := by
  rw [Nat.xor_comm]
  exact u32_xor_nat c 4294967295 h (by omega)

end Go.Proofs.Ytgohpompgiljiaa.Sum

namespace Go.Proofs.Ytgohpompgiljiaa.Sum
open Go.RowKit

theorem val_append (l m : List UInt8) : val (l ++ m) = val l + 2 ^ (8 * l.length) * val m := by
  induction l with
  | nil => simp [val]
  | cons b l ih =>
    have e : 8 * (b :: l).length = 8 + 8 * l.length := by simp; omega
    have e2 : val ((b :: l) ++ m) = b.toNat + 256 * val (l ++ m) := rfl
    have e3 : val (b :: l) = b.toNat + 256 * val l := rfl
    have e4 : (2 : Nat) ^ 8 = 256 := by decide
    rw [e2, e3, ih, e, Nat.pow_add, e4, Nat.mul_add, Nat.mul_assoc, Nat.add_assoc]
theorem val_snoc (s : ByteArray) (k : Nat) (h : k < s.size) : val (s.data.toList.take (k + 1)) = val (s.data.toList.take k) + 2 ^ (8 * k) * s[k].toNat := by
  have e : (s.data.toList.take k).length = k := by simp; omega
  rw [take_snoc s k h, val_append, e]
  simp [val]

theorem or_step (m b k : Nat) (hk : k < 4) (hm : m < 2 ^ (8 * k)) (hb : b < 256) :
    bits .or .u32 (m : Int) ((b : Int) * 2 ^ (8 * k) % 4294967296) = ((m + 2 ^ (8 * k) * b : Nat) : Int) ∧ m + 2 ^ (8 * k) * b < 2 ^ (8 * (k + 1)) ∧ 2 ^ (8 * (k + 1)) ≤ 4294967296 := by
  have h1 : 2 ^ (8 * (k + 1)) ≤ 2 ^ 32 := Nat.pow_le_pow_right (by omega) (by omega)
  have e1 : 2 ^ (8 * (k + 1)) = 2 ^ (8 * k) * 256 := by rw [Nat.mul_add, Nat.pow_add]
  have e2 : 2 ^ (8 * k) * b + 2 ^ (8 * k) ≤ 2 ^ (8 * k) * 256 := by
    have := Nat.mul_le_mul_left (2 ^ (8 * k)) (show b + 1 ≤ 256 by omega)
    rw [Nat.mul_add, Nat.mul_one] at this
    exact this
  have e3 : ((b : Int) * 2 ^ (8 * k) % 4294967296) = ((2 ^ (8 * k) * b : Nat) : Int) := by
    have h : ((2 ^ (8 * k) * b : Nat) : Int) = (b : Int) * 2 ^ (8 * k) := by rw [Nat.mul_comm]; simp
    rw [← h]
    omega
  refine ⟨?_, by omega, by omega⟩
  rw [e3, u32_or_nat _ _ (by omega) (by omega), Nat.or_comm, ← Nat.two_pow_add_eq_or_of_lt hm, Nat.add_comm]

end Go.Proofs.Ytgohpompgiljiaa.Sum
