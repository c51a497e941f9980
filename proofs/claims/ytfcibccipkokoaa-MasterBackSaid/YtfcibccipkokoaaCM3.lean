/- Plain mathematics: what was written is read, what is read is written. -/
import Derived.Test.YtfcibccipkokoaaCM2
namespace Go.Proofs.Ytfcibccipkokoaa.Rec

theorem be_num : ∀ (m : Nat) (l : List UInt8), l.length = m → be m (num l) = l := by
  intro m
  induction m with
  | zero =>
    intro l h
    rw [List.eq_nil_of_length_eq_zero h]
    rfl
  | succ m ih =>
    intro l h
    have hne : l ≠ [] := by intro e; subst e; simp at h
    rw [← List.dropLast_concat_getLast hne, num_snoc, be_snoc]
    have h2 := (l.getLast hne).toNat_lt
    have e1 : (256 * num l.dropLast + (l.getLast hne).toNat) / 256 = num l.dropLast := by omega
    have e2 : (256 * num l.dropLast + (l.getLast hne).toNat) % 256 = (l.getLast hne).toNat := by omega
    rw [e1, e2, ih _ (by rw [List.length_dropLast]; omega)]
    congr 1
    simp
theorem app_list (a b : ByteArray) : (a ++ b).data.toList = a.data.toList ++ b.data.toList := by
  rw [ByteArray.data_append, Array.toList_append]
theorem nb_list (m n : Nat) : (nb m n).data.toList = be m n := rfl
theorem list_len (s : ByteArray) : s.data.toList.length = s.size := rfl
theorem part_list (s : ByteArray) (a b : Nat) : (s.extract a b).data.toList = (s.data.toList.drop a).take (b - a) := by
  rw [ByteArray.data_extract, Array.toList_extract, List.extract_eq_take_drop]
theorem mid_list {α} (A B C : List α) (a n : Nat) (ha : A.length = a) (hn : B.length = n) : ((A ++ B ++ C).drop a).take n = B := by
  subst ha
  subst hn
  rw [List.append_assoc, List.drop_left, List.take_left]
theorem num_mid (A B C : ByteArray) (a m n : Nat) (ha : A.size = a) (hB : B = nb m n) (hn : n < 256 ^ m) : numAt (A ++ B ++ C) a m = n := by
  unfold numAt
  rw [app_list, app_list, mid_list _ _ _ a m (by rw [list_len]; exact ha) (by rw [list_len, hB, nb_size]), hB, nb_list, num_be m n hn]
/-- a number that stands somewhere -/
theorem tk_mid (s A C : ByteArray) (a m n : Nat) (hs : s = A ++ nb m n ++ C) (ha : A.size = a) (hn : n < 256 ^ m) : tkB s a m = true ∧ tkT s a m = a + m ∧ tkN s a m = n := by
  have hz : a + m ≤ s.size := by rw [hs, ByteArray.size_append, ByteArray.size_append, nb_size]; omega
  obtain ⟨h1, h2, h3⟩ := tk_of hz
  exact ⟨h1, h2, by rw [h3, hs, num_mid A _ C a m n ha rfl hn]⟩
theorem cut_mid (A B C : ByteArray) (a b : Nat) (ha : A.size = a) (hb : a + B.size = b) : (A ++ B ++ C).extract a b = B := by
  apply ByteArray.ext
  apply Array.toList_inj.1
  rw [part_list, app_list, app_list]
  exact mid_list _ _ _ a _ (by rw [list_len]; exact ha) (by rw [list_len]; omega)
theorem drop_part (l : List UInt8) (a n b : Nat) (hb : a + n = b) : l.drop a = (l.drop a).take n ++ l.drop b := by
  subst hb
  rw [← List.drop_drop, List.take_append_drop]
theorem be_at (s : ByteArray) (a m : Nat) (h : a + m ≤ s.size) : be m (numAt s a m) = (s.data.toList.drop a).take m :=
  be_num m _ (by rw [List.length_take, List.length_drop, list_len]; omega)
theorem take_more (l : List UInt8) (t n m : Nat) : (l.drop t).take (n + m) = (l.drop t).take n ++ (l.drop (t + n)).take m := by
  rw [List.take_add, List.drop_drop]

/-! ### rows of tables -/
theorem dis_read : ∀ (n : Nat) (l : List Di) (s A B : ByteArray) (t : Nat), l.length = n → s = A ++ disS l ++ B → A.size = t → (∀ d ∈ l, d.wf) → dB s t n = true ∧ dT s t n = t + 12 * n ∧ dL s t n = l
  | 0, l, s, A, B, t, hl, hs, ha, hw => by
    rw [List.eq_nil_of_length_eq_zero hl]
    exact ⟨rfl, rfl, rfl⟩
  | n + 1, l, s, A, B, t, hl, hs, ha, hw => by
    have hne : l ≠ [] := by intro e; subst e; simp at hl
    obtain ⟨l', d, rfl⟩ : ∃ l' d, l = l' ++ [d] := ⟨l.dropLast, l.getLast hne, (List.dropLast_concat_getLast hne).symm⟩
    have hl' : l'.length = n := by rw [List.length_append] at hl; simpa using hl
    have hd := hw d (by simp)
    rw [dis_snoc] at hs
    have hs1 : s = A ++ disS l' ++ (diS d ++ B) := by rw [hs]; simp only [ByteArray.append_assoc]
    obtain ⟨h1, h2, h3⟩ := dis_read n l' s A (diS d ++ B) t hl' hs1 ha (fun x hx => hw x (by simp [hx]))
    have hz : (A ++ disS l').size = t + 12 * n := by rw [ByteArray.size_append, dis_size, ha, hl']
    obtain ⟨k1, k2, k3⟩ := tk_mid s (A ++ disS l') (nb 8 d.lsn ++ B) (t + 12 * n) 4 d.page (by rw [hs]; simp only [diS, ByteArray.append_assoc]) hz hd.page
    obtain ⟨k4, k5, k6⟩ := tk_mid s (A ++ disS l' ++ nb 4 d.page) B (t + 12 * n + 4) 8 d.lsn (by rw [hs]; simp only [diS, ByteArray.append_assoc]) (by rw [ByteArray.size_append, hz, nb_size]) hd.lsn
    refine ⟨?_, ?_, ?_⟩
    · show (dB s t n && tkB s (dT s t n) 4 && tkB s (tkT s (dT s t n) 4) 8) = true
      rw [h1, h2, k1, k2, k4]; rfl
    · show tkT s (tkT s (dT s t n) 4) 8 = _
      rw [h2, k2, k5]; omega
    · show dL s t n ++ [⟨tkN s (dT s t n) 4, tkN s (tkT s (dT s t n) 4) 8⟩] = _
      rw [h3, h2, k2, k3, k6]
theorem acs_read : ∀ (n : Nat) (l : List Ac) (s A B : ByteArray) (t : Nat), l.length = n → s = A ++ acsS l ++ B → A.size = t → (∀ d ∈ l, d.wf) → aB s t n = true ∧ aT s t n = t + 32 * n ∧ aL s t n = l
  | 0, l, s, A, B, t, hl, hs, ha, hw => by
    rw [List.eq_nil_of_length_eq_zero hl]
    exact ⟨rfl, rfl, rfl⟩
  | n + 1, l, s, A, B, t, hl, hs, ha, hw => by
    have hne : l ≠ [] := by intro e; subst e; simp at hl
    obtain ⟨l', d, rfl⟩ : ∃ l' d, l = l' ++ [d] := ⟨l.dropLast, l.getLast hne, (List.dropLast_concat_getLast hne).symm⟩
    have hl' : l'.length = n := by rw [List.length_append] at hl; simpa using hl
    have hd := hw d (by simp)
    rw [acs_snoc] at hs
    have hs1 : s = A ++ acsS l' ++ (acS d ++ B) := by rw [hs]; simp only [ByteArray.append_assoc]
    obtain ⟨h1, h2, h3⟩ := acs_read n l' s A (acS d ++ B) t hl' hs1 ha (fun x hx => hw x (by simp [hx]))
    have hz : (A ++ acsS l').size = t + 32 * n := by rw [ByteArray.size_append, acs_size, ha, hl']
    obtain ⟨k1, k2, k3⟩ := tk_mid s (A ++ acsS l') (nb 8 d.first ++ (nb 8 d.last ++ (nb 8 d.next ++ B))) (t + 32 * n) 8 d.tx (by rw [hs]; simp only [acS, ByteArray.append_assoc]) hz hd.tx
    obtain ⟨k4, k5, k6⟩ := tk_mid s (A ++ acsS l' ++ nb 8 d.tx) (nb 8 d.last ++ (nb 8 d.next ++ B)) (t + 32 * n + 8) 8 d.first (by rw [hs]; simp only [acS, ByteArray.append_assoc]) (by rw [ByteArray.size_append, hz, nb_size]) hd.first
    obtain ⟨k7, k8, k9⟩ := tk_mid s (A ++ acsS l' ++ nb 8 d.tx ++ nb 8 d.first) (nb 8 d.next ++ B) (t + 32 * n + 8 + 8) 8 d.last (by rw [hs]; simp only [acS, ByteArray.append_assoc]) (by rw [ByteArray.size_append, ByteArray.size_append, hz, nb_size, nb_size]) hd.last
    obtain ⟨k10, k11, k12⟩ := tk_mid s (A ++ acsS l' ++ nb 8 d.tx ++ nb 8 d.first ++ nb 8 d.last) B (t + 32 * n + 8 + 8 + 8) 8 d.next (by rw [hs]; simp only [acS, ByteArray.append_assoc]) (by rw [ByteArray.size_append, ByteArray.size_append, ByteArray.size_append, hz, nb_size, nb_size, nb_size]) hd.next
    refine ⟨?_, ?_, ?_⟩
    · show (aB s t n && tkB s (aT s t n) 8 && tkB s (tkT s (aT s t n) 8) 8 && tkB s (tkT s (tkT s (aT s t n) 8) 8) 8 && tkB s (tkT s (tkT s (tkT s (aT s t n) 8) 8) 8) 8) = true
      rw [h1, h2, k1, k2, k4, k5, k7, k8, k10]; rfl
    · show tkT s (tkT s (tkT s (tkT s (aT s t n) 8) 8) 8) 8 = _
      rw [h2, k2, k5, k8, k11]; omega
    · show aL s t n ++ [⟨tkN s (aT s t n) 8, tkN s (tkT s (aT s t n) 8) 8, tkN s (tkT s (tkT s (aT s t n) 8) 8) 8, tkN s (tkT s (tkT s (tkT s (aT s t n) 8) 8) 8) 8⟩] = _
      rw [h3, h2, k2, k5, k8, k3, k6, k9, k12]
theorem dis_write : ∀ (n : Nat) (s : ByteArray) (t : Nat), t ≤ s.size → dB s t n = true → dT s t n = t + 12 * n ∧ t + 12 * n ≤ s.size ∧ (disS (dL s t n)).data.toList = (s.data.toList.drop t).take (12 * n)
  | 0, s, t, ht, _ => ⟨rfl, by omega, by rw [Nat.mul_zero, List.take_zero]; rfl⟩
  | n + 1, s, t, ht, h => by
    have h' : (dB s t n && tkB s (dT s t n) 4 && tkB s (tkT s (dT s t n) 4) 8) = true := h
    simp only [Bool.and_eq_true] at h'
    obtain ⟨⟨h1, h2⟩, h3⟩ := h'
    obtain ⟨e1, e2, e3⟩ := dis_write n s t ht h1
    rw [e1] at h2 h3
    obtain ⟨k1, k2, k3⟩ := tk_yes h2
    rw [k1] at h3
    obtain ⟨k4, k5, k6⟩ := tk_yes h3
    refine ⟨?_, by omega, ?_⟩
    · show tkT s (tkT s (dT s t n) 4) 8 = _
      rw [e1, k1, k4]; omega
    · show (disS (dL s t n ++ [⟨tkN s (dT s t n) 4, tkN s (tkT s (dT s t n) 4) 8⟩])).data.toList = _
      rw [dis_snoc, e1, k1, k2, k5, app_list, e3]
      unfold diS
      simp only [app_list, nb_list]
      rw [be_at s _ 4 k3, be_at s _ 8 k6, show 12 * (n + 1) = 12 * n + (4 + 8) by omega, take_more, take_more]
theorem acs_write : ∀ (n : Nat) (s : ByteArray) (t : Nat), t ≤ s.size → aB s t n = true → aT s t n = t + 32 * n ∧ t + 32 * n ≤ s.size ∧ (acsS (aL s t n)).data.toList = (s.data.toList.drop t).take (32 * n)
  | 0, s, t, ht, _ => ⟨rfl, by omega, by rw [Nat.mul_zero, List.take_zero]; rfl⟩
  | n + 1, s, t, ht, h => by
    have h' : (aB s t n && tkB s (aT s t n) 8 && tkB s (tkT s (aT s t n) 8) 8 && tkB s (tkT s (tkT s (aT s t n) 8) 8) 8 && tkB s (tkT s (tkT s (tkT s (aT s t n) 8) 8) 8) 8) = true := h
    simp only [Bool.and_eq_true] at h'
    obtain ⟨⟨⟨⟨h1, h2⟩, h3⟩, h4⟩, h5⟩ := h'
    obtain ⟨e1, e2, e3⟩ := acs_write n s t ht h1
    rw [e1] at h2 h3 h4 h5
    obtain ⟨k1, k2, k3⟩ := tk_yes h2
    rw [k1] at h3 h4 h5
    obtain ⟨k4, k5, k6⟩ := tk_yes h3
    rw [k4] at h4 h5
    obtain ⟨k7, k8, k9⟩ := tk_yes h4
    rw [k7] at h5
    obtain ⟨k10, k11, k12⟩ := tk_yes h5
    refine ⟨?_, by omega, ?_⟩
    · show tkT s (tkT s (tkT s (tkT s (aT s t n) 8) 8) 8) 8 = _
      rw [e1, k1, k4, k7, k10]; omega
    · show (acsS (aL s t n ++ [⟨tkN s (aT s t n) 8, tkN s (tkT s (aT s t n) 8) 8, tkN s (tkT s (tkT s (aT s t n) 8) 8) 8, tkN s (tkT s (tkT s (tkT s (aT s t n) 8) 8) 8) 8⟩])).data.toList = _
      rw [acs_snoc, e1, k1, k4, k7, k2, k5, k8, k11, app_list, e3]
      unfold acS
      simp only [app_list, nb_list]
      rw [be_at s _ 8 k3, be_at s _ 8 k6, be_at s _ 8 k9, be_at s _ 8 k12, show 32 * (n + 1) = 32 * n + (8 + (8 + (8 + 8))) by omega, take_more, take_more, take_more, take_more]
      simp only [List.append_assoc]

end Go.Proofs.Ytfcibccipkokoaa.Rec
