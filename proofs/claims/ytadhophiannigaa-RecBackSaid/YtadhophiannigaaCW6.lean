/- Walks: numbers' bytes, many numbers' bytes. -/
import Derived.Test.YtadhophiannigaaCW5
import Derived.Test.YtadhophiannigaaWC
import Derived.Deep.RegionHeld3
import Derived.Deep.DeepCutAuto
import Derived.Deep.CutBlock
namespace Go.Proofs.Ytadhophiannigaa.Rec
open Go.RowKit
attribute [local go_sem ↓] Go.wp_at_zero Go.wp_at_succ

theorem pow_le {m : Nat} (h8 : m ≤ 8) : 256 ^ m ≤ 18446744073709551616 := (Nat.pow_le_pow_right (by decide) h8 : 256 ^ m ≤ 256 ^ 8)
theorem num_ok {m n : Nat} (h8 : m ≤ 8) (hn : n < 256 ^ m) : U64 (n : Int) ∧ (((n : Int) / 2 ^ (8 * m)) != 0) = false := by
  have h := pow_le h8
  refine ⟨⟨by omega, by omega⟩, ?_⟩
  have e : (2 : Int) ^ (8 * m) = ((256 ^ m : Nat) : Int) := by rw [← pow256]; simp
  rw [e, Int.ediv_eq_zero_of_lt (by omega) (by omega)]
  rfl
theorem nb_eq (m n : Nat) : bytesOf m (n : Int) = nb m n := by unfold bytesOf nb; rw [Int.toNat_natCast]

set_option maxRecDepth 100000 in
theorem number_any (n m : Nat) (w : World) (h1 : 1 ≤ m) (h8 : m ≤ 8) (hn : n < 256 ^ m) :
    Calls Try.prog 20 #[.int .u64 (n : Int), .int .i64 (m : Int)] w fun e w' => e = .returned (.string (nb m n)) ∧ Below w.heap.size w w' := by
  obtain ⟨hu, hd⟩ := num_ok h8 hn
  have C := put_yes n m w h1 h8 hu.1 hd
  rw [nb_eq] at C
  have CC := Lib.hid C
  clear C hu hd hn
  go_enter Try.func20, Try.ntmps20
  go_wp2_with fail
  refine CC.out.mono ?_
  rintro e w' ⟨rfl, b⟩
  go_wp2_with fail
  go_ret
  exact ⟨rfl, b⟩

set_option maxRecDepth 100000 in
theorem rnumber_any (n m : Nat) (w : World) (h1 : 1 ≤ m) (h8 : m ≤ 8) (hn : n < 256 ^ m) :
    Calls Try.prog 23 #[.int .u64 (n : Int), .int .i64 (m : Int)] w fun e w' => e = .returned (.string (nb m n)) ∧ Below w.heap.size w w' := by
  obtain ⟨hu, hd⟩ := num_ok h8 hn
  have C := rput_yes n m w h1 h8 hu hd
  rw [nb_eq] at C
  have CC := Lib.hid C
  clear C hu hd hn
  go_enter Try.func23, Try.ntmps23
  go_wp2_with fail
  refine CC.out.mono ?_
  rintro e w' ⟨rfl, b⟩
  go_wp2_with fail
  go_ret
  exact ⟨rfl, b⟩

/-- numbers of eight bytes each -/
def wideS (l : List Nat) : ByteArray := l.foldl (fun s n => s ++ nb 8 n) ⟨#[]⟩
theorem wide_snoc (l : List Nat) (n : Nat) : wideS (l ++ [n]) = wideS l ++ nb 8 n := by unfold wideS; rw [List.foldl_append]; rfl
theorem wide_size (l : List Nat) : ∀ k, k ≤ l.length → (wideS (l.take k)).size = 8 * k := by
  intro k
  induction k with
  | zero => intro _; rw [List.take_zero]; rfl
  | succ k ih =>
    intro h
    rw [List.take_succ_eq_append_getElem (by omega), wide_snoc, ByteArray.size_append, nb_size, ih (by omega)]
    omega
theorem no_left (s : ByteArray) : (⟨#[]⟩ : ByteArray) ++ s = s := by simp [ByteArray.ext_iff]
theorem wide_one (a : Nat) : wideS [a] = nb 8 a := no_left _
theorem wide_two (a b : Nat) : wideS [a, b] = nb 8 a ++ nb 8 b := by rw [show [a, b] = [a] ++ [b] from rfl, wide_snoc, wide_one]
theorem wide_four (a b c d : Nat) : wideS [a, b, c, d] = nb 8 a ++ nb 8 b ++ nb 8 c ++ nb 8 d := by
  rw [show [a, b, c, d] = [a, b, c] ++ [d] from rfl, wide_snoc, show [a, b, c] = [a, b] ++ [c] from rfl, wide_snoc, wide_two]

set_option maxRecDepth 100000 in
set_option maxHeartbeats 1000000 in
theorem wide_any {w : World} {x : Nat} {cs : Array Value} (l : List Nat) (hx : w.heap[x]? = some (.cells cs 22 (0, 0))) (hc : ∀ (i n : Nat), l[i]? = some n → cs[i]? = some (.int .u64 (n : Int))) (hl : l.length ≤ 8) (hn : ∀ n ∈ l, n < 18446744073709551616) :
    Calls Try.prog 21 #[.slice (some ⟨x, 0, none⟩) l.length l.length] w fun e w' => e = .returned (.string (wideS l)) ∧ Below w.heap.size w w' := by
  have HX := Lib.hid (fun W (b : Below w.heap.size w W) (i n : Nat) (h : l[i]? = some n) => (show W.cell? ⟨x, i, none⟩ = some (.int .u64 (n : Int)) by
    rw [cell_of_row _ _ _ _ _ _ ((b.block x (Array.getElem?_eq_some_iff.1 hx).1).trans hx)]; exact hc i n h))
  have HN := Lib.hid hn
  have HZ := Lib.hid (wide_size l)
  obtain ⟨n, e⟩ : ∃ n, n = l.length := ⟨_, rfl⟩
  have N := Lib.hid e
  rw [← e] at hl ⊢
  clear e hx hc hn
  go_enter Try.func21, Try.ntmps21
  go_wp2_with fail
  go_loopw [3, 8] (fun s i wr => ∃ k : Nat, k ≤ n ∧ i = .int .i64 (k : Int) ∧ s = .string (wideS (l.take k)) ∧ Below w.heap.size w wr) (fun _ i _ => n - (intOf i).toNat)
  case atStart => exact ⟨0, by omega, rfl, rfl, Below.refl _ _⟩
  case round =>
    obtain ⟨k, hk, rfl, rfl, hb⟩ := hrel
    have HB := Lib.hid hb
    clear hb
    by_cases hlt : k < n
    · have hlt2 : k < l.length := by rw [← N.out]; exact hlt
      have c0 := HX.out wr HB.out k l[k] (List.getElem?_eq_getElem hlt2)
      have hm := HN.out l[k] (List.getElem_mem hlt2)
      have hz := HZ.out k (by omega)
      have TK := Lib.hid (show wideS (l.take (k + 1)) = wideS (l.take k) ++ nb 8 l[k] by rw [List.take_succ_eq_append_getElem hlt2, wide_snoc])
      have K := Lib.hid (show Calls Try.prog 20 #[.int .u64 (l[k] : Int), .int .i64 8] wr fun e w' => e = .returned (.string (nb 8 l[k])) ∧ Below wr.heap.size wr w' from number_any l[k] 8 wr (by decide) (by decide) (by omega))
      have z := nb_size 8 l[k]
      generalize nb 8 l[k] = y at *
      generalize l[k] = q at *
      generalize wideS (l.take k) = s at *
      clear hlt2 hm
      go_wp2_with fail
      refine K.out.mono ?_
      rintro e w2 ⟨rfl, b⟩
      have B2 := Lib.hid (HB.out.trans (b.mono HB.out.size))
      clear b K c0
      go_wp2_with fail
      go_roundw
      case rel => exact ⟨k + 1, by omega, by go_num, by rw [TK.out], B2.out⟩
      case measure => simp [intOf]; omega
    · obtain rfl : k = n := by omega
      have e : l.take k = l := List.take_of_length_le (by rw [← N.out]; exact Nat.le_refl _)
      rw [e]
      clear e
      go_wp2_with fail
      go_ret
      exact ⟨rfl, HB.out⟩

end Go.Proofs.Ytadhophiannigaa.Rec
