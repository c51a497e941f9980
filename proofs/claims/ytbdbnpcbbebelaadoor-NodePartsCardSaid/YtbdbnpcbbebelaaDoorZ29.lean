/-
  Plain mathematics: what was written is read, what is read is written.
-/
import Derived.Test.YtbdbnpcbbebelaaDoorZ7
namespace Go.Proofs.YtbdbnpcbbebelaaDoor.Row

theorem be_num : ∀ (m : Nat) (l : List UInt8), l.length = m → be m (num l) = l := by
  intro m
  induction m with
  | zero =>
    intro l h
    rw [List.eq_nil_of_length_eq_zero h]
    rfl
  | succ m ih =>
    intro l h
    have hne : l ≠ [] := by intro e; subst e; simp at h
    rw [← List.dropLast_concat_getLast hne, num_snoc, be_snoc]
    have h2 := (l.getLast hne).toNat_lt
    have e1 : (256 * num l.dropLast + (l.getLast hne).toNat) / 256 = num l.dropLast := by omega
    have e2 : (256 * num l.dropLast + (l.getLast hne).toNat) % 256 = (l.getLast hne).toNat := by omega
    rw [e1, e2, ih _ (by rw [List.length_dropLast]; omega)]
    congr 1
    simp
theorem app_list (a b : ByteArray) : (a ++ b).data.toList = a.data.toList ++ b.data.toList := by
  rw [ByteArray.data_append, Array.toList_append]
theorem nb_list (m n : Nat) : (nb m n).data.toList = be m n := rfl
theorem zerS_list (n : Nat) : (zerS n).data.toList = List.replicate n 0 := rfl
theorem mid_list {α} (A B C : List α) (a n : Nat) (ha : A.length = a) (hn : B.length = n) : ((A ++ B ++ C).drop a).take n = B := by
  subst ha
  subst hn
  rw [List.append_assoc, List.drop_left, List.take_left]
theorem num_mid (A B C : ByteArray) (a m n : Nat) (ha : A.size = a) (hB : B = nb m n) (hn : n < 256 ^ m) : numAt (A ++ B ++ C) a m = n := by
  unfold numAt
  rw [app_list, app_list, mid_list _ _ _ a m (by rw [list_len]; exact ha) (by rw [list_len, hB, nb_size]), hB, nb_list, num_be m n hn]
theorem cut_mid (A B C : ByteArray) (a b : Nat) (ha : A.size = a) (hb : a + B.size = b) : (A ++ B ++ C).extract a b = B := by
  apply ByteArray.ext
  apply Array.toList_inj.1
  rw [part_list, app_list, app_list]
  exact mid_list _ _ _ a _ (by rw [list_len]; exact ha) (by rw [list_len]; omega)
theorem blank_mid (A : ByteArray) (n a : Nat) (ha : A.size = a) : blankB (A ++ zerS n) a = true := by
  unfold blankB
  rw [app_list, ← ha, ← list_len, List.drop_left, zerS_list, List.all_eq_true]
  intro x hx
  rw [List.eq_of_mem_replicate hx]
  rfl

theorem dec_enc {r : Rw} (hw : r.wf) (hm : mayR r = true) : okR (encS r) = true ∧ rdR (encS r) = r := by
  obtain ⟨p1, p2, p3, p4, p5, p6⟩ := may_parts hm
  have e : encS r = bodyS r := by unfold encS; rw [if_pos hm]
  rw [e]
  have z0 := nb_size 1 (markN r)
  have z1 := nb_size 8 r.tx
  have z2 := nb_size 4 r.page
  have z3 := nb_size 2 r.slot
  have z4 := nb_size 1 r.key.size
  have z5 := nb_size 1 r.value.size
  have zb := body_size r
  have lmk : markN r ≤ 1 := by unfold markN; split <;> omega
  have n0 : numAt (bodyS r) 0 1 = markN r := by
    have := num_mid ⟨#[]⟩ (nb 1 (markN r)) (nb 8 r.tx ++ nb 4 r.page ++ nb 2 r.slot ++ tx1 r.key ++ tx1 r.value ++ zerS r.pad.toNat) 0 1 (markN r) rfl rfl (by omega)
    rw [show (⟨#[]⟩ : ByteArray) ++ nb 1 (markN r) = nb 1 (markN r) by simp [ByteArray.ext_iff]] at this
    simp only [bodyS, headS, ByteArray.append_assoc] at this ⊢
    exact this
  have n1 : numAt (bodyS r) 1 8 = r.tx := by
    have := num_mid (nb 1 (markN r)) (nb 8 r.tx) (nb 4 r.page ++ nb 2 r.slot ++ tx1 r.key ++ tx1 r.value ++ zerS r.pad.toNat) 1 8 r.tx z0 rfl hw.tx
    simp only [bodyS, headS, ByteArray.append_assoc] at this ⊢
    exact this
  have n2 : numAt (bodyS r) 9 4 = r.page := by
    have := num_mid (nb 1 (markN r) ++ nb 8 r.tx) (nb 4 r.page) (nb 2 r.slot ++ tx1 r.key ++ tx1 r.value ++ zerS r.pad.toNat) 9 4 r.page (by rw [ByteArray.size_append]; omega) rfl hw.page
    simp only [bodyS, headS, ByteArray.append_assoc] at this ⊢
    exact this
  have n3 : numAt (bodyS r) 13 2 = r.slot := by
    have := num_mid (nb 1 (markN r) ++ nb 8 r.tx ++ nb 4 r.page) (nb 2 r.slot) (tx1 r.key ++ tx1 r.value ++ zerS r.pad.toNat) 13 2 r.slot (by rw [ByteArray.size_append, ByteArray.size_append]; omega) rfl hw.slot
    simp only [bodyS, headS, ByteArray.append_assoc] at this ⊢
    exact this
  have n4 : numAt (bodyS r) 15 1 = r.key.size := by
    have := num_mid (headS r) (nb 1 r.key.size) (r.key ++ tx1 r.value ++ zerS r.pad.toNat) 15 1 r.key.size (head_size r) rfl (by omega)
    simp only [bodyS, headS, tx1, ByteArray.append_assoc] at this ⊢
    exact this
  have n5 : numAt (bodyS r) (16 + r.key.size) 1 = r.value.size := by
    have := num_mid (headS r ++ tx1 r.key) (nb 1 r.value.size) (r.value ++ zerS r.pad.toNat) (16 + r.key.size) 1 r.value.size (by rw [ByteArray.size_append, head_size, tx1_size]; omega) rfl (by omega)
    simp only [bodyS, headS, tx1, ByteArray.append_assoc] at this ⊢
    exact this
  have c1 : (bodyS r).extract 16 (16 + r.key.size) = r.key := by
    have := cut_mid (headS r ++ nb 1 r.key.size) r.key (tx1 r.value ++ zerS r.pad.toNat) 16 (16 + r.key.size) (by rw [ByteArray.size_append, head_size]; omega) rfl
    simp only [bodyS, headS, tx1, ByteArray.append_assoc] at this ⊢
    exact this
  have c2 : (bodyS r).extract (17 + r.key.size) (17 + r.key.size + r.value.size) = r.value := by
    have := cut_mid (headS r ++ tx1 r.key ++ nb 1 r.value.size) r.value (zerS r.pad.toNat) (17 + r.key.size) (17 + r.key.size + r.value.size) (by rw [ByteArray.size_append, ByteArray.size_append, head_size, tx1_size]; omega) rfl
    simp only [bodyS, headS, tx1, ByteArray.append_assoc] at this ⊢
    exact this
  have c3 : blankB (bodyS r) (17 + r.key.size + r.value.size) = true := by
    have := blank_mid (headS r ++ tx1 r.key ++ tx1 r.value) r.pad.toNat (17 + r.key.size + r.value.size) (by rw [ByteArray.size_append, ByteArray.size_append, head_size, tx1_size, tx1_size]; omega)
    exact this
  obtain ⟨h1, h2, h3⟩ := rd_of (s := bodyS r) (by omega) (by rw [n4]; omega) (by rw [n4, n5]; omega) (by rw [n0]; exact lmk)
  rw [n0, n1, n2, n3, n4, n5, c1, c2] at h1
  rw [n4, n5] at h2
  have hr : rdR (bodyS r) = r := by
    rw [h1]
    obtain ⟨key, mark, tx, page, slot, value, pad⟩ := r
    simp only at *
    have em : decide (markN ⟨key, mark, tx, page, slot, value, pad⟩ = 1) = mark := by unfold markN; cases mark <;> rfl
    have ep : ((bodyS ⟨key, mark, tx, page, slot, value, pad⟩).size : Int) - ((17 + key.size + value.size : Nat) : Int) = pad := by omega
    rw [em, ep]
  refine ⟨?_, hr⟩
  rw [h3, hr, h2, c3, hm]
  rfl

theorem enc_inj {a b : Rw} (ha : a.wf) (hb : b.wf) (ma : mayR a = true) (mb : mayR b = true) (h : encS a = encS b) : a = b := by
  have h1 := (dec_enc ha ma).2
  have h2 := (dec_enc hb mb).2
  rw [← h1, h, h2]

theorem drop_part (l : List UInt8) (a n b : Nat) (hb : a + n = b) : l.drop a = (l.drop a).take n ++ l.drop b := by
  subst hb
  rw [← List.drop_drop, List.take_append_drop]
theorem be_at (s : ByteArray) (a m : Nat) (h : a + m ≤ s.size) : be m (numAt s a m) = (s.data.toList.drop a).take m :=
  be_num m _ (by rw [List.length_take, List.length_drop, list_len]; omega)
theorem all_zero : ∀ (l : List UInt8), l.all (· == 0) = true → l = List.replicate l.length 0
  | [], _ => rfl
  | x :: r, h => by
    rw [List.all_cons, Bool.and_eq_true, beq_iff_eq] at h
    rw [List.length_cons, List.replicate_succ, ← all_zero r h.2, h.1]
/-- what is read is written as itself -/
theorem enc_dec {s : ByteArray} (hs : s.size ≤ 140737488351232) (h : okR s = true) : mayR (rdR s) = true ∧ encS (rdR s) = s := by
  have hw := ok_whole h
  obtain ⟨_, _, _, _, _, _, _, _, k1, k2, k3⟩ := whole_q hw
  rw [k1] at k2 k3
  rw [k2] at k3
  have hm1 : numAt s 0 1 ≤ 1 := by
    by_cases hc : 1 < numAt s 0 1
    · exact absurd h (mark_no (by omega) hc)
    · omega
  obtain ⟨h1, h2, h3⟩ := rd_of (by omega) (by omega) k3 hm1
  rw [h] at h3
  obtain ⟨m, b⟩ := Bool.and_eq_true_iff.1 h3.symm
  refine ⟨m, ?_⟩
  have e : encS (rdR s) = bodyS (rdR s) := by unfold encS; rw [if_pos m]
  rw [e]
  apply ByteArray.ext
  apply Array.toList_inj.1
  rw [h2] at b
  have lt5 := numAt_lt s 15 1
  have lt6 := numAt_lt s (16 + numAt s 15 1) 1
  have zb := all_zero _ b
  rw [List.length_drop, list_len] at zb
  have mk : markN (rdR s) = numAt s 0 1 := by
    rw [h1]
    unfold markN
    simp only [decide_eq_true_eq]
    split <;> omega
  have zk : (s.extract 16 (16 + numAt s 15 1)).size = numAt s 15 1 := by rw [ByteArray.size_extract]; omega
  have zv : (s.extract (17 + numAt s 15 1) (17 + numAt s 15 1 + numAt s (16 + numAt s 15 1) 1)).size = numAt s (16 + numAt s 15 1) 1 := by rw [ByteArray.size_extract]; omega
  have pd : ((s.size : Int) - ((17 + numAt s 15 1 + numAt s (16 + numAt s 15 1) 1 : Nat) : Int)).toNat = s.size - (17 + numAt s 15 1 + numAt s (16 + numAt s 15 1) 1) := by omega
  unfold bodyS headS tx1
  rw [mk, h1]
  simp only [app_list, nb_list, zerS_list, zk, zv, pd, List.append_assoc]
  rw [be_at s 0 1 (by omega), be_at s 1 8 (by omega), be_at s 9 4 (by omega), be_at s 13 2 (by omega), be_at s 15 1 (by omega), be_at s (16 + numAt s 15 1) 1 (by omega), part_list, part_list, ← zb]
  have t1 : (16 + numAt s 15 1) - 16 = numAt s 15 1 := by omega
  have t2 : 17 + numAt s 15 1 + numAt s (16 + numAt s 15 1) 1 - (17 + numAt s 15 1) = numAt s (16 + numAt s 15 1) 1 := by omega
  rw [t1, t2]
  generalize s.data.toList = L
  generalize numAt s (16 + numAt s 15 1) 1 = v
  generalize numAt s 15 1 = k
  rw [← drop_part L (17 + k) v _ rfl, ← drop_part L (16 + k) 1 (17 + k) (by omega), ← drop_part L 16 k _ rfl, ← drop_part L 15 1 16 rfl, ← drop_part L 13 2 15 rfl, ← drop_part L 9 4 13 rfl, ← drop_part L 1 8 9 rfl, ← drop_part L 0 1 1 rfl, List.drop_zero]

end Go.Proofs.YtbdbnpcbbebelaaDoor.Row
