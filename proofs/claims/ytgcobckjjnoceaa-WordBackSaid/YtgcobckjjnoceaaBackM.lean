/- Plain facts for WordBack: what was put is got, what was set is cut, all else is as it was. -/
import Derived.Test.YtgcobckjjnoceaaW6
import Derived.Test.YtgcobckjjnoceaaN
namespace Go.Proofs.Ytgcobckjjnoceaa

theorem getD_at {l : List UInt8} {i : Nat} (d : UInt8) (h : i < l.length) : l.getD i d = l[i] := by
  simp [List.getD, List.getElem?_eq_getElem h]

theorem setY_list (s : ByteArray) (i : Nat) (p : ByteArray) : (setY s i p).data.toList = (List.range s.size).map (setAt s i p p.size) := by
  unfold setY; simp
theorem setY_size (s : ByteArray) (i : Nat) (p : ByteArray) : (setY s i p).size = s.size := by
  have h : (setY s i p).size = (setY s i p).data.toList.length := (Lib.size_eq _)
  rw [h, setY_list]; simp
theorem ext_list {s t : ByteArray} (h : s.data.toList = t.data.toList) : s = t := by
  apply ByteArray.ext
  exact Array.toList_inj.1 h
theorem part_list (s : ByteArray) (a b : Nat) : (s.extract a b).data.toList = (s.data.toList.drop a).take (b - a) := by
  rw [ByteArray.data_extract, Array.toList_extract, List.extract_eq_take_drop]

theorem setY_low (s : ByteArray) (i : Nat) (p : ByteArray) (h : i + p.size ≤ s.size) : (setY s i p).extract 0 i = s.extract 0 i := by
  apply ext_list
  rw [part_list, part_list, setY_list]
  have e : s.data.toList.length = s.size := (Lib.size_eq _).symm
  apply List.ext_getElem
  · simp only [List.length_take, List.length_drop, List.length_map, List.length_range]; omega
  · intro j h1 h2
    have h3 : j < i := by simp only [List.length_take, List.length_drop, List.length_map, List.length_range] at h1; omega
    have h4 : j < s.data.toList.length := by omega
    simp only [List.getElem_take, List.getElem_drop, List.getElem_map, List.getElem_range, Nat.zero_add]
    unfold setAt
    rw [if_neg (by omega), getD_at 0 h4]

theorem setY_high (s : ByteArray) (i : Nat) (p : ByteArray) (h : i + p.size ≤ s.size) : (setY s i p).extract (i + p.size) s.size = s.extract (i + p.size) s.size := by
  apply ext_list
  rw [part_list, part_list, setY_list]
  have e : s.data.toList.length = s.size := (Lib.size_eq _).symm
  apply List.ext_getElem
  · simp only [List.length_take, List.length_drop, List.length_map, List.length_range]; omega
  · intro j h1 h2
    have h3 : i + p.size + j < s.size := by simp only [List.length_take, List.length_drop, List.length_map, List.length_range] at h1; omega
    have h4 : i + p.size + j < s.data.toList.length := by omega
    simp only [List.getElem_take, List.getElem_drop, List.getElem_map, List.getElem_range]
    unfold setAt
    rw [if_neg (by omega), getD_at 0 h4]

theorem setY_list_mid (s : ByteArray) (i : Nat) (p : ByteArray) (h : i + p.size ≤ s.size) : ((setY s i p).data.toList.drop i).take p.size = p.data.toList := by
  rw [setY_list]
  have e : p.data.toList.length = p.size := (Lib.size_eq _).symm
  apply List.ext_getElem
  · simp only [List.length_take, List.length_drop, List.length_map, List.length_range]; omega
  · intro j h1 h2
    have h4 : i + j - i < p.data.toList.length := by omega
    simp only [List.getElem_take, List.getElem_drop, List.getElem_map, List.getElem_range]
    unfold setAt
    rw [if_pos (by omega), getD_at 0 h4]
    congr 1
    omega

theorem setY_mid (s : ByteArray) (i : Nat) (p : ByteArray) (h : i + p.size ≤ s.size) : (setY s i p).extract i (i + p.size) = p := by
  apply ext_list
  rw [part_list, Nat.add_sub_cancel_left, setY_list_mid s i p h]

theorem setY_num (s : ByteArray) (i : Nat) (p : ByteArray) (h : i + p.size ≤ s.size) : numAt (setY s i p) i p.size = num p.data.toList := by
  unfold numAt
  rw [setY_list_mid s i p h]

theorem bytesOf_size (m : Nat) (n : Int) : (bytesOf m n).size = m := by
  have h : (bytesOf m n).size = (bytesOf m n).data.toList.length := (Lib.size_eq _)
  rw [h]
  unfold bytesOf
  simp [be_length]

theorem putB_of {x : Int} {m : Nat} (h1 : 1 ≤ m) (h8 : m ≤ 8) (h : x / 2 ^ (8 * m) = 0) : putB x m = true := by
  unfold putB; simp [h]; omega
theorem putS_of {x : Int} {m : Nat} (h : putB x m = true) : putS x m = bytesOf m x := by unfold putS; rw [h]; simp

/-- what the bound that the law takes makes of a number of any size -/
theorem room_mod {n : Int} (hn : U64 n) {m : Nat} (h8 : m < 8) :
    IntKind.u64.wrap (2 ^ (8 * m)) = 2 ^ (8 * m) ∧ U64 (n.tmod (2 ^ (8 * m))) ∧ n.tmod (2 ^ (8 * m)) / 2 ^ (8 * m) = 0 := by
  have hp : (0 : Int) < 2 ^ (8 * m) := Int.pow_pos (by omega)
  have h0 := hn.1
  have h1 := hn.2
  have hle : (2 : Int) ^ (8 * m) ≤ 2 ^ 56 := by
    have h2 : (2 : Nat) ^ (8 * m) ≤ 2 ^ 56 := Nat.pow_le_pow_right (by omega) (by omega)
    have h3 : ((2 ^ (8 * m) : Nat) : Int) = 2 ^ (8 * m) := by simp
    omega
  rw [Int.tmod_eq_emod_of_nonneg h0]
  have e1 := Int.emod_nonneg n (show (2 : Int) ^ (8 * m) ≠ 0 by omega)
  have e2 := Int.emod_lt_of_pos n hp
  have e3 : n % 2 ^ (8 * m) / 2 ^ (8 * m) = 0 := Int.ediv_eq_zero_of_lt e1 e2
  generalize (2 : Int) ^ (8 * m) = M at *
  refine ⟨by rw [IntKind.wrap_u64]; omega, ⟨e1, by omega⟩, e3⟩

theorem room_all {n : Int} (hn : U64 n) : n / 2 ^ (8 * 8) = 0 := by
  have h0 := hn.1
  have h1 := hn.2
  have e : (2 : Int) ^ (8 * 8) = 18446744073709551616 := by decide
  rw [e]
  omega

end Go.Proofs.Ytgcobckjjnoceaa
