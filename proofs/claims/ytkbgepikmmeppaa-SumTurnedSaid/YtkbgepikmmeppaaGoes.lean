/- The walk of SumGoes. -/
import Derived.Test.YtkbgepikmmeppaaTells
namespace Go.Proofs.Ytkbgepikmmeppaa
open Go.RowKit

theorem openT_seal (s : ByteArray) : openT ⟨(sealL s.data.toList).toArray⟩ = s ∧ isSealed (⟨(sealL s.data.toList).toArray⟩ : ByteArray).data.toList = true := by
  have e1 : (⟨(sealL s.data.toList).toArray⟩ : ByteArray).data.toList = sealL s.data.toList := by simp
  have e2 : isSealed (⟨(sealL s.data.toList).toArray⟩ : ByteArray).data.toList = true := by rw [e1]; exact sealed_sealL _
  refine ⟨?_, e2⟩
  unfold openT
  rw [e2, if_pos rfl]
  apply ByteArray.ext
  apply Array.toList_inj.1
  have e3 : (⟨(sealL s.data.toList).toArray⟩ : ByteArray).size = (sealL s.data.toList).length := by
    show (sealL s.data.toList).toArray.size = _
    simp
  rw [part_list, e1, e3, List.drop_zero, Nat.sub_zero, take_sealL]
theorem seal_size (s : ByteArray) : (⟨(sealL s.data.toList).toArray⟩ : ByteArray).size = s.size + 4 := by
  show (sealL s.data.toList).toArray.size = _
  rw [List.size_toArray, sealL_length]
  congr 1
theorem cat_data (s t : ByteArray) : (s ++ t).data.toList = s.data.toList ++ t.data.toList := by simp

set_option maxHeartbeats 1000000 in
theorem goes_walk (s t : ByteArray) (c : Int) (w : World) (hs2 : s.size ≤ 140737488351232) (ht2 : t.size ≤ 140737488351232) (hc : 0 ≤ c ∧ c ≤ 4294967295) :
    Calls Try.prog 5 #[.string s, .string t, .int .u32 c] w fun e w' => e = .returned (.bool true) ∧ Below w.heap.size w w' := by
  have hs : s.size ≤ maxLen := by unfold maxLen; omega
  have ht : t.size ≤ maxLen := by unfold maxLen; omega
  obtain ⟨c, rfl⟩ : ∃ n : Nat, c = n := ⟨c.toNat, by omega⟩
  have hc2 : c < 4294967296 := by omega
  by_cases h1 : (s.size : Int) + t.size > 4096
  · go_enter Try.func5, Try.ntmps5
    go_wp2_with fail
    refine (alive_any _).mono ?_
    rintro e w1 ⟨rfl, b1⟩
    go_wp2_with fail
    go_ret
    exact ⟨rfl, b1⟩
  have hst : (s ++ t).size ≤ maxLen := by rw [ByteArray.size_append]; unfold maxLen; omega
  have q1 := fun w => of_any s w hs
  have q2 := fun w => more_any (sumOf s.data.toList) t w (sumOf_lt _) ht
  have q3 := fun w => of_any (s ++ t) w hst
  have q4 := fun w => more_any c s w hc2 hs
  have q5 := fun w => more_any (more c s.data.toList) t w (more_lt hc2 _) ht
  have q6 := fun w => more_any c (s ++ t) w hc2 hst
  have q7 := fun w => more_any c ⟨#[]⟩ w hc2 (by decide)
  rw [cat_data] at q3 q6
  have e7 : more c (⟨#[]⟩ : ByteArray).data.toList = c := more_nil c
  rw [e7] at q7
  have e2 : more (sumOf s.data.toList) t.data.toList = sumOf (s.data.toList ++ t.data.toList) := more_more 0 _ _
  rw [e2] at q2
  rw [more_more] at q5
  have q8 := fun w => seal_any s w (by omega)
  have z := seal_size s
  have o1 := openT_seal s
  generalize hS : (⟨(sealL s.data.toList).toArray⟩ : ByteArray) = S at *
  have q9 := fun w => seal_any S w (by omega)
  have z2 := seal_size S
  have o2 := openT_seal S
  generalize hS2 : (⟨(sealL S.data.toList).toArray⟩ : ByteArray) = S2 at *
  have q10 := fun w => open_any S2 w (by omega)
  have q11 := fun w => open_any S w (by omega)
  rw [o2.1, o2.2] at q10
  rw [o1.1, o1.2] at q11
  generalize sumOf (s.data.toList ++ t.data.toList) = x at *
  generalize sumOf s.data.toList = x0 at *
  generalize more c (s.data.toList ++ t.data.toList) = y at *
  generalize more c s.data.toList = y0 at *
  have p1 := Lib.hid q1
  have p2 := Lib.hid q2
  have p3 := Lib.hid q3
  have p4 := Lib.hid q4
  have p5 := Lib.hid q5
  have p6 := Lib.hid q6
  have p7 := Lib.hid q7
  have p8 := Lib.hid q8
  have p9 := Lib.hid q9
  have p10 := Lib.hid q10
  have p11 := Lib.hid q11
  clear q1 q2 q3 q4 q5 q6 q7 q8 q9 q10 q11 hS hS2 z z2 o1 o2 e7 e2
  go_enter Try.func5, Try.ntmps5
  go_wp2_with fail
  refine (p1.out _).mono ?_
  rintro e w1 ⟨rfl, b1⟩
  go_wp2_with fail
  refine (p2.out _).mono ?_
  rintro e w2 ⟨rfl, b2⟩
  go_wp2_with fail
  refine (p3.out _).mono ?_
  rintro e w3 ⟨rfl, b3⟩
  go_wp2_with fail
  refine (p4.out _).mono ?_
  rintro e w4 ⟨rfl, b4⟩
  go_wp2_with fail
  refine (p5.out _).mono ?_
  rintro e w5 ⟨rfl, b5⟩
  go_wp2_with fail
  refine (p6.out _).mono ?_
  rintro e w6 ⟨rfl, b6⟩
  go_wp2_with fail
  refine (p7.out _).mono ?_
  rintro e w7 ⟨rfl, b7⟩
  go_wp2_with fail
  refine (p8.out _).mono ?_
  rintro e w8 ⟨rfl, b8⟩
  go_wp2_with fail
  refine (p9.out _).mono ?_
  rintro e w9 ⟨rfl, b9⟩
  go_wp2_with fail
  refine (p10.out _).mono ?_
  rintro e w10 ⟨rfl, b10⟩
  go_wp2_with fail
  refine (p11.out _).mono ?_
  rintro e w11 ⟨rfl, b11⟩
  go_wp2_with fail
  refine (alive_any _).mono ?_
  rintro e w12 ⟨rfl, b12⟩
  go_wp2_with fail
  go_ret
  have c2 := b1.trans (b2.mono b1.size)
  have c3 := c2.trans (b3.mono c2.size)
  have c4 := c3.trans (b4.mono c3.size)
  have c5 := c4.trans (b5.mono c4.size)
  have c6 := c5.trans (b6.mono c5.size)
  have c7 := c6.trans (b7.mono c6.size)
  have c8 := c7.trans (b8.mono c7.size)
  have c9 := c8.trans (b9.mono c8.size)
  have c10 := c9.trans (b10.mono c9.size)
  have c11 := c10.trans (b11.mono c10.size)
  exact ⟨rfl, c11.trans (b12.mono c11.size)⟩

end Go.Proofs.Ytkbgepikmmeppaa
