/- Plain mathematics: what is read is written as itself; the document's reading. -/
import Derived.Test.YtadhophiannigaaCM4
namespace Go.Proofs.Ytadhophiannigaa.Rec

theorem rdM_head (s : ByteArray) : (rdM s).kind = kd s ∧ (rdM s).tx = (rdH s).tx ∧ (rdM s).prev = (rdH s).prev := by
  unfold rdM
  split
  · exact ⟨rfl, rfl, rfl⟩
  split
  · exact ⟨rfl, rfl, rfl⟩
  split
  · exact ⟨rfl, rfl, rfl⟩
  split
  · exact ⟨rfl, rfl, rfl⟩
  · exact ⟨rfl, rfl, rfl⟩
theorem mB_head {s : ByteArray} (h : mB s = true) : hB s = true := by
  unfold mB at h
  split at h
  · simp only [Bool.and_eq_true] at h; exact h.1.1
  split at h
  · simp only [Bool.and_eq_true] at h; exact h.1
  split at h
  · simp only [Bool.and_eq_true] at h; exact h.1
  split at h
  · simp only [Bool.and_eq_true] at h; exact h.1
  · exact h
theorem head_whole {s : ByteArray} (h : hB s = true) : q1 s = 1 ∧ q2 s = 9 ∧ q3 s = 17 ∧ 17 ≤ s.size ∧ kd s = numAt s 0 1 ∧ (rdH s).tx = numAt s 1 8 ∧ (rdH s).prev = numAt s 9 8 := by
  simp only [hB, Bool.and_eq_true] at h
  obtain ⟨⟨h1, h2⟩, h3⟩ := h
  obtain ⟨a1, a2, a3⟩ := tk_yes h1
  have e1 : q1 s = 1 := a1
  rw [e1] at h2
  obtain ⟨b1, b2, b3⟩ := tk_yes h2
  have e2 : q2 s = 9 := by unfold q2; rw [e1]; exact b1
  rw [e2] at h3
  obtain ⟨c1, c2, c3⟩ := tk_yes h3
  have e3 : q3 s = 17 := by unfold q3; rw [e2]; exact c1
  refine ⟨e1, e2, e3, by omega, a2, ?_, ?_⟩
  · show tkN s (q1 s) 8 = _
    rw [e1, b2]
  · show tkN s (q2 s) 8 = _
    rw [e2, c2]
theorem tabs_whole {s : ByteArray} (h : tB s 17 = true) (_hz : 17 ≤ s.size) : t1 s 17 = 25 ∧ t2 s 17 = 33 ∧ tn s 17 = numAt s 33 1 ∧ t3 s 17 = 34 ∧ t4 s 17 = 34 + 12 * tn s 17 ∧ tm s 17 = numAt s (34 + 12 * tn s 17) 1 ∧ t5 s 17 = 34 + 12 * tn s 17 + 1 ∧ t6 s 17 = 34 + 12 * tn s 17 + 1 + 32 * tm s 17 ∧ t6 s 17 ≤ s.size ∧ dB s 34 (tn s 17) = true ∧ aB s (34 + 12 * tn s 17 + 1) (tm s 17) = true ∧ tkN s 17 8 = numAt s 17 8 ∧ tkN s (t1 s 17) 8 = numAt s 25 8 := by
  simp only [tB, Bool.and_eq_true] at h
  obtain ⟨⟨⟨⟨⟨h1, h2⟩, h3⟩, h4⟩, h5⟩, h6⟩ := h
  obtain ⟨a1, a2, a3⟩ := tk_yes h1
  have u1 : t1 s 17 = 25 := a1
  rw [u1] at h2
  obtain ⟨b1, b2, b3⟩ := tk_yes h2
  have u2 : t2 s 17 = 33 := by unfold t2; rw [u1]; exact b1
  rw [u2] at h3
  obtain ⟨c1, c2, c3⟩ := tk_yes h3
  have u3 : t3 s 17 = 34 := by unfold t3; rw [u2]; exact c1
  have un : tn s 17 = numAt s 33 1 := by unfold tn; rw [u2]; exact c2
  rw [u3] at h4
  obtain ⟨d1, d2, d3⟩ := dis_write (tn s 17) s 34 (by omega) h4
  have u4 : t4 s 17 = 34 + 12 * tn s 17 := by unfold t4; rw [u3]; exact d1
  rw [u4] at h5
  obtain ⟨e1, e2, e3⟩ := tk_yes h5
  have u5 : t5 s 17 = 34 + 12 * tn s 17 + 1 := by unfold t5; rw [u4]; exact e1
  have um : tm s 17 = numAt s (34 + 12 * tn s 17) 1 := by unfold tm; rw [u4]; exact e2
  rw [u5] at h6
  obtain ⟨f1, f2, f3⟩ := acs_write (tm s 17) s _ (by omega) h6
  have u6 : t6 s 17 = 34 + 12 * tn s 17 + 1 + 32 * tm s 17 := by unfold t6; rw [u5]; exact f1
  exact ⟨u1, u2, un, u3, u4, um, u5, u6, by omega, h4, h6, a2, by rw [u1]; exact b2⟩

theorem join_list (L : List UInt8) (n : Nat) : L.take 17 ++ (L.drop 17).take n ++ L.drop (17 + n) = L := by
  rw [List.append_assoc, ← drop_part L 17 n _ rfl, List.take_append_drop]
/-- the middle of what is read -/
theorem mid_write {s : ByteArray} (h : mB s = true) : ∃ n, mT s = 17 + n ∧ 17 + n ≤ s.size ∧ (midS (rdM s)).data.toList = (s.data.toList.drop 17).take n := by
  have hh := mB_head h
  obtain ⟨e1, e2, e3, hz, ek, _, _⟩ := head_whole hh
  have hk := (rdM_head s).1
  unfold midS
  rw [hk]
  unfold mT rdM
  unfold mB at h
  rw [e3] at h ⊢
  rw [hh] at h
  by_cases k2 : kd s = 2
  · rw [if_pos k2] at h
    simp only [Bool.true_and, Bool.and_eq_true] at h
    obtain ⟨h1, h2⟩ := h
    obtain ⟨a1, a2, a3⟩ := tk_yes h1
    rw [a1] at h2
    obtain ⟨b1, b2, b3⟩ := tk_yes h2
    rw [if_pos k2, if_pos k2, if_pos k2, a1, a2, b1, b2]
    refine ⟨6, rfl, by omega, ?_⟩
    simp only [app_list, nb_list]
    rw [be_at s 17 4 (by omega), be_at s 21 2 (by omega), show (6 : Nat) = 4 + 2 from rfl, take_more]
  rw [if_neg k2] at h
  rw [if_neg k2, if_neg k2, if_neg k2]
  by_cases k3 : kd s = 3
  · rw [if_pos k3] at h
    simp only [Bool.true_and] at h
    obtain ⟨a1, a2, a3⟩ := tk_yes h
    rw [if_pos k3, if_pos k3, if_pos k3, a1, a2]
    refine ⟨8, rfl, by omega, ?_⟩
    rw [nb_list, be_at s 17 8 (by omega)]
  rw [if_neg k3] at h
  rw [if_neg k3, if_neg k3, if_neg k3]
  by_cases k4 : kd s = 4
  · rw [if_pos k4] at h
    simp only [Bool.true_and] at h
    obtain ⟨a1, a2, a3⟩ := tk_yes h
    rw [if_pos k4, if_pos k4, if_pos k4, a1, a2]
    refine ⟨8, rfl, by omega, ?_⟩
    rw [nb_list, be_at s 17 8 (by omega)]
  rw [if_neg k4] at h
  rw [if_neg k4, if_neg k4, if_neg k4]
  by_cases k8 : kd s = 8
  · rw [if_pos k8] at h
    simp only [Bool.true_and] at h
    obtain ⟨u1, u2, un, u3, u4, um, u5, u6, hz6, hd, ha, y1, y2⟩ := tabs_whole h hz
    rw [if_pos k8, if_pos k8, if_pos k8]
    refine ⟨8 + (8 + (1 + (12 * tn s 17 + (1 + 32 * tm s 17)))), by rw [u6]; omega, by omega, ?_⟩
    have d := (dis_write (tn s 17) s 34 (by omega) hd).2.2
    have a := (acs_write (tm s 17) s (34 + 12 * tn s 17 + 1) (by omega) ha).2.2
    unfold tabS tabOf
    simp only [app_list, nb_list]
    have b3 : be 1 (tn s 17) = (s.data.toList.drop 33).take 1 := by rw [un]; exact be_at s 33 1 (by omega)
    have b5 : be 1 (tm s 17) = (s.data.toList.drop (34 + 12 * tn s 17)).take 1 := by rw [um]; exact be_at s _ 1 (by omega)
    rw [u3, u5, d, a, dL_len, aL_len, y1, y2, b3, b5, be_at s 17 8 (by omega), be_at s 25 8 (by omega), take_more, take_more, take_more, take_more, take_more]
    simp only [List.append_assoc, show 17 + 8 = 25 from rfl, show 25 + 8 = 33 from rfl, show 33 + 1 = 34 from rfl]
  rw [if_neg k8] at h
  rw [if_neg k8, if_neg k8]
  try rw [if_neg k8]
  exact ⟨0, rfl, by omega, rfl⟩
/-- what is read is written as itself -/
theorem enc_dec {s : ByteArray} (h : okC s = true) : encS (rdC s) = s := by
  simp only [okC, whB, Bool.and_eq_true] at h
  obtain ⟨⟨h1, h2⟩, h3⟩ := h
  obtain ⟨e1, e2, e3, hz, ek, e4, e5⟩ := head_whole (mB_head h1)
  obtain ⟨n, hn, hle, hm⟩ := mid_write h1
  obtain ⟨g1, g2, g3⟩ := rdM_head s
  have e : encS (rdC s) = bodyS (rdC s) := by unfold encS; rw [if_pos h3]
  rw [e]
  apply ByteArray.ext
  apply Array.toList_inj.1
  have eb : (rdC s).body = s.extract (17 + n) s.size := by
    show tkS s (mT s) (s.size - mT s) = _
    unfold tkS
    rw [hn, if_pos (by omega), show 17 + n + (s.size - (17 + n)) = s.size by omega]
  have em : midS (rdC s) = midS (rdM s) := rfl
  have eh : headS (rdC s) = nb 1 (numAt s 0 1) ++ (nb 8 (numAt s 1 8) ++ nb 8 (numAt s 9 8)) := by
    show nb 1 (rdM s).kind ++ (nb 8 (rdM s).tx ++ nb 8 (rdM s).prev) = _
    rw [g1, g2, g3, ek, e4, e5]
  unfold bodyS
  rw [eb, em, eh]
  simp only [app_list, nb_list]
  rw [hm, part_list, be_at s 0 1 (by omega), be_at s 1 8 (by omega), be_at s 9 8 (by omega)]
  have t1 : (s.data.toList.drop (17 + n)).take (s.size - (17 + n)) = s.data.toList.drop (17 + n) := List.take_of_length_le (by rw [List.length_drop, list_len]; omega)
  have t2 : (s.data.toList.drop 0).take 1 ++ ((s.data.toList.drop 1).take 8 ++ (s.data.toList.drop 9).take 8) = s.data.toList.take 17 := by
    rw [← take_more, ← take_more, List.drop_zero]
  rw [t1, t2, join_list]

/-! ### the document's reading -/
def rD (s : ByteArray) (t : Nat) : Nat → List Di
  | 0 => []
  | k + 1 => rD s t k ++ [⟨tkN s (t + 12 * k) 4, tkN s (t + 12 * k + 4) 8⟩]
def rA (s : ByteArray) (t : Nat) : Nat → List Ac
  | 0 => []
  | k + 1 => rA s t k ++ [⟨tkN s (t + 32 * k) 8, tkN s (t + 32 * k + 8) 8, tkN s (t + 32 * k + 16) 8, tkN s (t + 32 * k + 24) 8⟩]
def restS (s : ByteArray) (a : Nat) : ByteArray := if a ≤ s.size then s.extract a s.size else ⟨#[]⟩
def rn (s : ByteArray) : Nat := tkN s 33 1
def rm (s : ByteArray) : Nat := tkN s (34 + 12 * rn s) 1
def rrH (s : ByteArray) : Rc := { Rc.zero with kind := kd s, tx := tkN s 1 8, prev := tkN s 9 8 }
def rrC (s : ByteArray) : Rc :=
  if kd s = 2 then { rrH s with page := tkN s 17 4, slot := tkN s 21 2, body := restS s 23 }
  else if kd s = 6 then { rrH s with body := restS s 17 }
  else if kd s = 3 then { rrH s with next := tkN s 17 8, body := restS s 25 }
  else if kd s = 4 then { rrH s with number := tkN s 17 8, body := restS s 25 }
  else if kd s = 8 then { rrH s with ttx := tkN s 17 8, tnum := tkN s 25 8, dirty := rD s 34 (rn s), txns := rA s (34 + 12 * rn s + 1) (rm s) }
  else rrH s
theorem rD_len (s : ByteArray) (t : Nat) : ∀ k, (rD s t k).length = k
  | 0 => rfl
  | k + 1 => by show (rD s t k ++ [_]).length = k + 1; rw [List.length_append, rD_len s t k]; rfl
theorem rA_len (s : ByteArray) (t : Nat) : ∀ k, (rA s t k).length = k
  | 0 => rfl
  | k + 1 => by show (rA s t k ++ [_]).length = k + 1; rw [List.length_append, rA_len s t k]; rfl
theorem rD_eq : ∀ (n : Nat) (s : ByteArray) (t : Nat), t ≤ s.size → dB s t n = true → rD s t n = dL s t n
  | 0, s, t, ht, _ => rfl
  | n + 1, s, t, ht, h => by
    have h' : (dB s t n && tkB s (dT s t n) 4 && tkB s (tkT s (dT s t n) 4) 8) = true := h
    simp only [Bool.and_eq_true] at h'
    obtain ⟨⟨h1, h2⟩, h3⟩ := h'
    have e1 := (dis_write n s t ht h1).1
    rw [e1] at h2
    obtain ⟨k1, k2, k3⟩ := tk_yes h2
    show rD s t n ++ [⟨tkN s (t + 12 * n) 4, tkN s (t + 12 * n + 4) 8⟩] = dL s t n ++ [⟨tkN s (dT s t n) 4, tkN s (tkT s (dT s t n) 4) 8⟩]
    rw [rD_eq n s t ht h1, e1, k1]
theorem rA_eq : ∀ (n : Nat) (s : ByteArray) (t : Nat), t ≤ s.size → aB s t n = true → rA s t n = aL s t n
  | 0, s, t, ht, _ => rfl
  | n + 1, s, t, ht, h => by
    have h' : (aB s t n && tkB s (aT s t n) 8 && tkB s (tkT s (aT s t n) 8) 8 && tkB s (tkT s (tkT s (aT s t n) 8) 8) 8 && tkB s (tkT s (tkT s (tkT s (aT s t n) 8) 8) 8) 8) = true := h
    simp only [Bool.and_eq_true] at h'
    obtain ⟨⟨⟨⟨h1, h2⟩, h3⟩, h4⟩, h5⟩ := h'
    have e1 := (acs_write n s t ht h1).1
    rw [e1] at h2 h3 h4 h5
    obtain ⟨k1, k2, k3⟩ := tk_yes h2
    rw [k1] at h3 h4 h5
    obtain ⟨k4, k5, k6⟩ := tk_yes h3
    rw [k4] at h4 h5
    obtain ⟨k7, k8, k9⟩ := tk_yes h4
    show rA s t n ++ [⟨tkN s (t + 32 * n) 8, tkN s (t + 32 * n + 8) 8, tkN s (t + 32 * n + 16) 8, tkN s (t + 32 * n + 24) 8⟩] = aL s t n ++ [⟨tkN s (aT s t n) 8, tkN s (tkT s (aT s t n) 8) 8, tkN s (tkT s (tkT s (aT s t n) 8) 8) 8, tkN s (tkT s (tkT s (tkT s (aT s t n) 8) 8) 8) 8⟩]
    rw [rA_eq n s t ht h1, e1, k1, k4, k7]
theorem rest_eq {s : ByteArray} {t : Nat} (h : t ≤ s.size) : restS s t = tkS s t (s.size - t) := by
  unfold restS tkS
  rw [if_pos h, if_pos (by omega), show t + (s.size - t) = s.size by omega]
/-- whole bytes are read alike -/
theorem rr_eq {s : ByteArray} (h : okC s = true) : rrC s = rdC s := by
  simp only [okC, whB, Bool.and_eq_true] at h
  obtain ⟨⟨h1, h2⟩, h3⟩ := h
  have hh := mB_head h1
  obtain ⟨e1, e2, e3, hz, ek, e4, e5⟩ := head_whole hh
  obtain ⟨g1, g2, g3⟩ := rdM_head s
  have EH : rrH s = rdH s := by unfold rrH rdH; rw [e1, e2]
  have MT := mT_le s
  have bz := (may_zero h3).2.2.2.2
  have hk : (rdC s).kind = kd s := g1
  rw [hk] at bz
  unfold rrC rdC
  unfold mB at h1
  rw [EH]
  unfold rdM
  unfold mT at MT ⊢
  rw [e3] at MT h1 ⊢
  rw [hh] at h1
  by_cases k2 : kd s = 2
  · rw [if_pos k2] at h1 MT
    simp only [Bool.true_and, Bool.and_eq_true] at h1
    obtain ⟨a1, a2⟩ := h1
    obtain ⟨a3, a4, a5⟩ := tk_yes a1
    rw [a3] at a2 MT
    obtain ⟨b3, b4, b5⟩ := tk_yes a2
    rw [b3] at MT
    rw [if_pos k2, if_pos k2, if_pos k2, a3, b3, rest_eq MT]
  rw [if_neg k2] at h1 MT
  rw [if_neg k2, if_neg k2, if_neg k2]
  by_cases k6 : kd s = 6
  · rw [if_neg (by omega), if_neg (by omega), if_neg (by omega)] at MT
    rw [if_pos k6, if_neg (by omega), if_neg (by omega), if_neg (by omega), if_neg (by omega), if_neg (by omega), if_neg (by omega), rest_eq MT]
  rw [if_neg k6]
  by_cases k3 : kd s = 3
  · rw [if_pos k3] at h1 MT
    simp only [Bool.true_and] at h1
    obtain ⟨a3, a4, a5⟩ := tk_yes h1
    rw [a3] at MT
    rw [if_pos k3, if_pos k3, if_pos k3, a3, rest_eq MT]
  rw [if_neg k3] at h1 MT
  rw [if_neg k3, if_neg k3, if_neg k3]
  by_cases k4 : kd s = 4
  · rw [if_pos k4] at h1 MT
    simp only [Bool.true_and] at h1
    obtain ⟨a3, a4, a5⟩ := tk_yes h1
    rw [a3] at MT
    rw [if_pos k4, if_pos k4, if_pos k4, a3, rest_eq MT]
  rw [if_neg k4] at h1 MT
  rw [if_neg k4, if_neg k4, if_neg k4]
  have bz2 := bz (by omega)
  have hbz : (rdC s).body = tkS s (mT s) (s.size - mT s) := rfl
  rw [hbz] at bz2
  unfold mT at bz2
  rw [e3, if_neg k2, if_neg k3, if_neg k4] at bz2
  by_cases k8 : kd s = 8
  · rw [if_pos k8] at h1 MT
    simp only [Bool.true_and] at h1
    rw [if_pos k8] at bz2
    obtain ⟨u1, u2, un, u3, u4, um, u5, u6, hz6, hd, ha, y1, y2⟩ := tabs_whole h1 hz
    rw [if_pos k8, if_pos k8, if_pos k8, bz2]
    have en : rn s = tn s 17 := by unfold rn tn; rw [u2]
    have em : rm s = tm s 17 := by unfold rm tm; rw [u4, en]
    unfold tabOf
    rw [en, em, u1, u3, u5, rD_eq _ s 34 (by omega) hd, rA_eq _ s _ (by omega) ha]
    rfl
  rw [if_neg k8] at bz2
  rw [if_neg k8, if_neg k8, if_neg k8, bz2]
  rfl
def rokC (s : ByteArray) : Bool := decide (17 ≤ s.size) && (decide (s.size ≤ 4096) && (mayC (rrC s) && decide (encS (rrC s) = s)))
theorem rrH_wf (s : ByteArray) : (rrH s).wf :=
  { kind := tkN_lt s _ 1, tx := tkN_lt s _ 8, prev := tkN_lt s _ 8, page := (by decide : 0 < 4294967296), slot := (by decide : 0 < 65536), next := (by decide : 0 < 18446744073709551616), number := (by decide : 0 < 18446744073709551616), body := (by decide : 0 ≤ 140737488351232), ttx := (by decide : 0 < 18446744073709551616), tnum := (by decide : 0 < 18446744073709551616), dirty := (by decide : 0 ≤ 140737488351232), txns := (by decide : 0 ≤ 140737488351232), each := fun i d h => by simp [rrH, Rc.zero] at h, eacht := fun i d h => by simp [rrH, Rc.zero] at h }
theorem rD_wf (s : ByteArray) (t : Nat) : ∀ k, ∀ d ∈ rD s t k, d.wf
  | 0 => fun d h => by cases h
  | k + 1 => fun d h => by
    rcases List.mem_append.1 h with h | h
    · exact rD_wf s t k d h
    · rw [List.mem_singleton] at h
      subst h
      exact ⟨tkN_lt s _ 4, tkN_lt s _ 8⟩
theorem rA_wf (s : ByteArray) (t : Nat) : ∀ k, ∀ d ∈ rA s t k, d.wf
  | 0 => fun d h => by cases h
  | k + 1 => fun d h => by
    rcases List.mem_append.1 h with h | h
    · exact rA_wf s t k d h
    · rw [List.mem_singleton] at h
      subst h
      exact ⟨tkN_lt s _ 8, tkN_lt s _ 8, tkN_lt s _ 8, tkN_lt s _ 8⟩
theorem restS_le (s : ByteArray) (a : Nat) (hs : s.size ≤ 140737488351232) : (restS s a).size ≤ 140737488351232 := by
  unfold restS
  split
  · rw [ByteArray.size_extract]; omega
  · exact Nat.zero_le _
theorem rrC_wf {s : ByteArray} (hs : s.size ≤ 140737488351232) : (rrC s).wf := by
  have h := rrH_wf s
  unfold rrC
  split
  · exact { h with page := tkN_lt s _ 4, slot := tkN_lt s _ 2, body := restS_le s _ hs }
  split
  · exact { h with body := restS_le s _ hs }
  split
  · exact { h with next := tkN_lt s _ 8, body := restS_le s _ hs }
  split
  · exact { h with number := tkN_lt s _ 8, body := restS_le s _ hs }
  split
  · refine { h with dirty := ?_, txns := ?_, ttx := tkN_lt s _ 8, tnum := tkN_lt s _ 8, each := fun i d hd => ?_, eacht := fun i d hd => ?_ }
    · show (rD s _ _).length ≤ _
      rw [rD_len]
      have := tkN_lt s 33 1
      unfold rn
      omega
    · show (rA s _ _).length ≤ _
      rw [rA_len]
      have := tkN_lt s (34 + 12 * rn s) 1
      unfold rm
      omega
    · exact rD_wf s _ _ d (List.mem_of_getElem? hd)
    · exact rA_wf s _ _ d (List.mem_of_getElem? hd)
  · exact h
/-- both readings are one -/
theorem rok_eq {s : ByteArray} (hs : s.size ≤ 140737488351232) : rokC s = okC s := by
  rw [Bool.eq_iff_iff]
  constructor
  · intro h
    simp only [rokC, Bool.and_eq_true, decide_eq_true_eq] at h
    obtain ⟨h1, h2, h3, h4⟩ := h
    obtain ⟨w1, w2⟩ := dec_enc (rrC_wf hs) h3
    rw [h4] at w1 w2
    unfold okC
    rw [w1, w2, h3]
    rfl
  · intro h
    have e := enc_dec h
    have e2 := rr_eq h
    simp only [rokC, Bool.and_eq_true, decide_eq_true_eq]
    have hm : mayC (rdC s) = true := by unfold okC at h; exact (Bool.and_eq_true_iff.1 h).2
    have hw : whB s = true := by unfold okC at h; exact (Bool.and_eq_true_iff.1 h).1
    have hb : hB s = true := mB_head (by unfold whB at hw; exact (Bool.and_eq_true_iff.1 hw).1)
    refine ⟨(head_whole hb).2.2.2.1, ?_, by rw [e2]; exact hm, by rw [e2]; exact e⟩
    have := enc_le (rdC s)
    rw [e] at this
    exact this

end Go.Proofs.Ytadhophiannigaa.Rec
