/-
  Plain mathematics: frames one behind the other, cut off; frames in which bits were turned.
-/
import Derived.Test.YtgohpompgiljiaaZ20
import Derived.Test.YtgohpompgiljiaaZ21
namespace Go.Proofs.Ytgohpompgiljiaa.Frame
open Go.Proofs.Ytgohpompgiljiaa.Sum (le4 sumOf val more run run_append run_val H H_xor H_add H_shift H_zero val_le4 sumOf_lt)

theorem no_right (s : ByteArray) : s ++ (⟨#[]⟩ : ByteArray) = s := by simp [ByteArray.ext_iff]
theorem app_assoc (a b c : ByteArray) : a ++ b ++ c = a ++ (b ++ c) := L_ext (by rw [L_app, L_app, L_app, L_app, List.append_assoc])
theorem may_iff {lsn : Nat} {s : ByteArray} : mayF lsn s = true ↔ 1 ≤ s.size ∧ s.size ≤ 4096 ∧ 0 < lsn := by simp [mayF]
/-- a frame that is cut off is wanting -/
theorem dec_cut {lsn : Nat} {s : ByteArray} {j : Nat} (hl : lsn < 18446744073709551616) (h : mayF lsn s = true) (hj : j < 14 + s.size) : decE ((encF lsn s).extract 0 j) lsn = 6 := by
  have hm := may_iff.1 h
  have ez := enc_size h
  have hz : ((encF lsn s).extract 0 j).size = j := by rw [ByteArray.size_extract]; omega
  unfold decE
  by_cases h14 : j < 14
  · rw [if_pos (by omega)]
  have e : encF lsn s = bodF lsn s := by unfold encF; rw [if_pos h]
  obtain ⟨p1, p2, _⟩ := parts lsn s ⟨#[]⟩ hl hm.2.1
  rw [no_right] at p1 p2
  rw [e] at hz ⊢
  have q : L ((bodF lsn s).extract 0 j) = (L (bodF lsn s)).take j := by rw [L_cut, List.drop_zero, Nat.sub_zero]
  have n1 : nF ((bodF lsn s).extract 0 j) = nF (bodF lsn s) := by
    unfold nF
    rw [q, List.take_take, Nat.min_eq_left (by omega)]
  have n2 : aF ((bodF lsn s).extract 0 j) = aF (bodF lsn s) := by
    unfold aF
    rw [q, List.drop_take, List.take_take, Nat.min_eq_left (by omega)]
  rw [p1] at n1
  rw [p2] at n2
  rw [if_neg (by omega), if_neg (by omega), if_pos (by omega)]

/-! ### one behind the other -/
def cat : List ByteArray → Nat → ByteArray
  | [], _ => ⟨#[]⟩
  | s :: l, a => encF a s ++ cat l (a + (14 + s.size))
/-- texts that may stand in frames -/
def okL (l : List ByteArray) : Prop := ∀ x ∈ l, 1 ≤ x.size ∧ x.size ≤ 4096
theorem okL.may {l : List ByteArray} (h : okL l) {x : ByteArray} (hx : x ∈ l) {a : Nat} (ha : 0 < a) : mayF a x = true := may_iff.2 ⟨(h x hx).1, (h x hx).2, ha⟩
theorem cat_app : ∀ (l m : List ByteArray) (a : Nat), okL l → 0 < a → cat (l ++ m) a = cat l a ++ cat m (a + (cat l a).size) := by
  intro l
  induction l with
  | nil =>
    intro m a _ _
    show cat m a = (⟨#[]⟩ : ByteArray) ++ cat m (a + 0)
    rw [Nat.add_zero]
    exact L_ext (by rw [L_app]; rfl)
  | cons s l ih =>
    intro m a h ha
    have hs := enc_size (h.may (List.mem_cons_self ..) ha)
    show encF a s ++ cat (l ++ m) (a + (14 + s.size)) = (encF a s ++ cat l (a + (14 + s.size))) ++ cat m (a + (encF a s ++ cat l (a + (14 + s.size))).size)
    rw [ih m _ (fun x hx => h x (List.mem_cons_of_mem _ hx)) (by omega), ByteArray.size_append, hs, app_assoc, show a + (14 + s.size) + (cat l (a + (14 + s.size))).size = a + (14 + s.size + (cat l (a + (14 + s.size))).size) from by omega]
theorem cat_one (x : ByteArray) (a : Nat) : cat [x] a = encF a x := no_right _
theorem cat_snoc {l : List ByteArray} {x : ByteArray} {a : Nat} (h : okL l) (ha : 0 < a) : cat (l ++ [x]) a = cat l a ++ encF (a + (cat l a).size) x := by
  rw [cat_app _ _ _ h ha, cat_one]
theorem cut_right (e r : ByteArray) : (e ++ r).extract e.size (e ++ r).size = r := by
  apply L_ext
  rw [L_cut, L_app, List.drop_left' (by rw [L_len]), List.take_of_length_le (by rw [L_len, ByteArray.size_append]; omega)]
theorem cut_left (e r : ByteArray) {k : Nat} (h : k ≤ e.size) : (e ++ r).extract 0 k = e.extract 0 k := by
  apply L_ext
  rw [L_cut, L_cut, L_app, List.drop_zero, List.drop_zero, Nat.sub_zero, List.take_append_of_le_length (by rw [L_len]; exact h)]
theorem cut_more (e r : ByteArray) (j : Nat) : (e ++ r).extract 0 (e.size + j) = e ++ r.extract 0 j := by
  apply L_ext
  rw [L_cut, L_app, L_app, L_cut, List.drop_zero, List.drop_zero, Nat.sub_zero, Nat.sub_zero]
  have : (L e).length = e.size := L_len e
  rw [← this, List.take_length_add_append]
theorem scn_cat : ∀ (l : List ByteArray) (a : Nat) (t : ByteArray), okL l → 0 < a → a + (cat l a).size < 18446744073709551616 →
    scn (cat l a ++ t) a = (l ++ (scn t (a + (cat l a).size)).1, (cat l a).size + (scn t (a + (cat l a).size)).2.1, (scn t (a + (cat l a).size)).2.2) := by
  intro l
  induction l with
  | nil =>
    intro a t _ _ _
    show scn ((⟨#[]⟩ : ByteArray) ++ t) a = ([] ++ (scn t (a + 0)).1, 0 + (scn t (a + 0)).2.1, _)
    rw [Nat.add_zero, Nat.zero_add, List.nil_append, show (⟨#[]⟩ : ByteArray) ++ t = t from L_ext (by rw [L_app]; rfl)]
    rfl
  | cons s l ih =>
    intro a t h ha hb
    have hm := h.may (List.mem_cons_self ..) ha
    have hs := enc_size hm
    have ez : (cat (s :: l) a).size = 14 + s.size + (cat l (a + (14 + s.size))).size := by
      show (encF a s ++ cat l (a + (14 + s.size))).size = _
      rw [ByteArray.size_append, hs]
    rw [ez] at hb ⊢
    have e : cat (s :: l) a ++ t = encF a s ++ (cat l (a + (14 + s.size)) ++ t) := app_assoc _ _ _
    obtain ⟨d1, d2, d3⟩ := dec_enc (cat l (a + (14 + s.size)) ++ t) (by omega) hm
    rw [e, scn_yes d1, d2, d3, ← hs, cut_right, hs, up_of (by omega), ih _ t (fun x hx => h x (List.mem_cons_of_mem _ hx)) (by omega) (by omega)]
    simp only [List.cons_append, Nat.add_assoc]
/-- what is cut off anywhere: the whole ones are told -/
theorem cuts {l : List ByteArray} {a k m : Nat} (h : okL l) (ha : 0 < a) (hb : a + (cat l a).size < 18446744073709551616) (hk : k ≤ (cat l a).size) (hm : m ≤ l.length) (h1 : (cat (l.take m) a).size ≤ k) (h2 : m = l.length ∨ k < (cat (l.take (m + 1)) a).size) :
    scn ((cat l a).extract 0 k) a = (l.take m, (cat (l.take m) a).size, if (cat (l.take m) a).size = k then 0 else 6) := by
  by_cases hml : m = l.length
  · subst hml
    rw [List.take_length] at h1 ⊢
    have hkk : k = (cat l a).size := by omega
    subst hkk
    have e := scn_cat l a ⟨#[]⟩ h ha hb
    rw [no_right, scn_nil (t := ⟨#[]⟩) rfl] at e
    rw [cut_all, e, if_pos rfl, List.append_nil, Nat.add_zero]
  · have hlt : m < l.length := by omega
    have h2 : k < (cat (l.take (m + 1)) a).size := by omega
    have hx : l[m] ∈ l := List.getElem_mem hlt
    have ht : okL (l.take m) := fun x hx => h x (List.mem_of_mem_take hx)
    have e1 : l.take (m + 1) = l.take m ++ [l[m]] := List.take_succ_eq_append_getElem hlt
    have e2 : l = l.take (m + 1) ++ l.drop (m + 1) := (List.take_append_drop _ _).symm
    have ht1 : okL (l.take (m + 1)) := fun x hx => h x (List.mem_of_mem_take hx)
    have e3 : cat l a = cat (l.take (m + 1)) a ++ cat (l.drop (m + 1)) (a + (cat (l.take (m + 1)) a).size) := by
      conv => lhs; rw [e2]
      exact cat_app _ _ _ ht1 ha
    rw [e3, cut_left _ _ (Nat.le_of_lt h2), e1, cat_snoc ht ha]
    rw [e3, ByteArray.size_append] at hb
    rw [e1, cat_snoc ht ha, ByteArray.size_append] at h2 hb
    have hmm := h.may hx (a := a + (cat (l.take m) a).size) (by omega)
    have hs := enc_size hmm
    rw [hs] at h2 hb
    obtain ⟨j, rfl⟩ := Nat.le.dest h1
    rw [cut_more, scn_cat _ _ _ ht ha (by omega)]
    by_cases hj : j = 0
    · subst hj
      rw [scn_nil (by rw [ByteArray.size_extract]; omega), if_pos (by omega), List.append_nil, Nat.add_zero]
    · have hd := dec_cut (j := j) (by omega) hmm (by omega)
      rw [scn_no (by rw [ByteArray.size_extract]; omega) (by rw [hd]; decide), hd, if_neg (by omega), List.append_nil, Nat.add_zero]

/-! ### bits that were turned -/
theorem sum_turn {A B C : List UInt8} {k m : Nat} (hl : C.length = B.length) (hk : k ≤ 8 * B.length) (hm : m < 4294967296) (hv : val C = val B ^^^ 2 ^ k * m) (e : sumOf (A ++ C) = sumOf (A ++ B)) : m = 0 := by
  unfold sumOf more at e
  have e1 := congrArg (4294967295 ^^^ ·) e
  simp only [Sum.flip_flip] at e1
  rw [run_append, run_append, run_val _ C, run_val _ B, hl, hv, ← Nat.xor_assoc, H_xor] at e1
  generalize H (8 * B.length) (run (4294967295 ^^^ 0) A ^^^ val B) = p at e1
  have e2 : H (8 * B.length) (2 ^ k * m) = 0 := by
    have := congrArg (p ^^^ ·) e1
    simpa [← Nat.xor_assoc] using this
  have e3 : 8 * B.length = k + (8 * B.length - k) := by omega
  rw [e3, H_add, H_shift] at e2
  exact H_zero hm e2
/-- parts of what is laid out like a frame -/
theorem parts_of {u : ByteArray} {a b c d : List UInt8} (hu : L u = a ++ (b ++ (c ++ d))) (ha : a.length = 2) (hb : b.length = 8) (hc : c.length = 4) :
    nF u = num a ∧ aF u = num b ∧ L (u.extract 0 10) = a ++ b ∧ L (u.extract 10 14) = c ∧ L (u.extract 14 (14 + d.length)) = d ∧ u.size = 14 + d.length := by
  refine ⟨?_, ?_, ?_, ?_, ?_, ?_⟩
  · unfold nF
    rw [hu, List.take_left' ha]
  · unfold aF
    rw [hu, List.drop_left' ha, List.take_left' hb]
  · rw [L_cut, hu, List.drop_zero, ← List.append_assoc, List.take_left' (by rw [List.length_append, ha, hb])]
  · rw [L_cut, hu, ← List.append_assoc, List.drop_left' (by rw [List.length_append, ha, hb]), List.take_left' hc]
  · rw [L_cut, hu, ← List.append_assoc, ← List.append_assoc, List.drop_left' (by simp only [List.length_append, ha, hb, hc]), List.take_of_length_le (by omega)]
  · rw [← L_len, hu]
    simp only [List.length_append, ha, hb, hc]
    omega
theorem enc_list {lsn : Nat} {s : ByteArray} (h : mayF lsn s = true) : L (encF lsn s) = be 2 s.size ++ (be 8 lsn ++ (le4 (sumOf (be 2 s.size ++ be 8 lsn ++ L s)) ++ L s)) := by
  unfold encF
  rw [if_pos h]
  have hh : L (hdF lsn s) = be 2 s.size ++ be 8 lsn := by unfold hdF; rw [L_app, L_nb, L_nb]
  unfold bodF
  rw [L_app, L_app, L_sb, L_app, hh]
  simp only [List.append_assoc]
/-- the sum, in words of lists -/
theorem okF_of {u : ByteArray} {a b c d : List UInt8} (hu : L u = a ++ (b ++ (c ++ d))) (ha : a.length = 2) (hb : b.length = 8) (hc : c.length = 4) (hn : num a = d.length) : okF u = decide (le4 (sumOf (a ++ b ++ d)) = c) := by
  obtain ⟨p1, p2, p3, p4, p5, p6⟩ := parts_of hu ha hb hc
  unfold okF
  rw [p1, hn, L_sb, L_app, p3, p5, p4]
theorem dec_of_list {u : ByteArray} {a b c d : List UInt8} {lsn : Nat} (hu : L u = a ++ (b ++ (c ++ d))) (ha : a.length = 2) (hb : b.length = 8) (hc : c.length = 4) (hn : num a = d.length) (h1 : 1 ≤ d.length) (h2 : d.length ≤ 4096) (h3 : num b = lsn) (h4 : 0 < lsn) :
    decE u lsn = if le4 (sumOf (a ++ b ++ d)) = c then 0 else 100 := by
  obtain ⟨p1, p2, p3, p4, p5, p6⟩ := parts_of hu ha hb hc
  unfold decE
  rw [if_neg (by omega), if_neg (by omega), if_neg (by omega), okF_of hu ha hb hc hn]
  by_cases e : le4 (sumOf (a ++ b ++ d)) = c
  · rw [if_pos e, if_pos (decide_eq_true e)]
  · rw [if_neg e, if_neg (by rw [decide_eq_false e]; decide)]
theorem le4_inj {x y : Nat} (hx : x < 4294967296) (hy : y < 4294967296) (e : le4 x = le4 y) : x = y := by
  rw [← val_le4 hx, ← val_le4 hy, e]
/-- bits of the record are turned that lie within 32 in a row -/
theorem dec_turned {lsn : Nat} {s : ByteArray} {u : List UInt8} {k m : Nat} (hl : lsn < 18446744073709551616) (h : mayF lsn s = true) (hu : u.length = (L (encF lsn s)).length) (hk : k ≤ 8 * s.size) (hm : m < 4294967296) (hv : val u = val (L (encF lsn s)) ^^^ 2 ^ (8 * 14 + k) * m) :
    decE ⟨u.toArray⟩ lsn = if m = 0 then 0 else 100 := by
  have hmm := may_iff.1 h
  have e := enc_list h
  have hz : (L (encF lsn s)).length = 14 + s.size := enc_size h
  obtain ⟨t1, t2, t3⟩ := Bits.turned_parts (j := 14) hu (by omega) hv
  have h2 : (be 2 s.size).length = 2 := be_length _ _
  have h8 : (be 8 lsn).length = 8 := be_length _ _
  have h4 : (le4 (sumOf (be 2 s.size ++ be 8 lsn ++ L s))).length = 4 := rfl
  have e' : L (encF lsn s) = (be 2 s.size ++ (be 8 lsn ++ le4 (sumOf (be 2 s.size ++ be 8 lsn ++ L s)))) ++ L s := by rw [e]; simp only [List.append_assoc]
  have hlen : (be 2 s.size ++ (be 8 lsn ++ le4 (sumOf (be 2 s.size ++ be 8 lsn ++ L s)))).length = 14 := by simp only [List.length_append, h2, h8, h4]
  have ed : (L (encF lsn s)).drop 14 = L s := by rw [e', List.drop_left' hlen]
  have et : (L (encF lsn s)).take 14 = be 2 s.size ++ (be 8 lsn ++ le4 (sumOf (be 2 s.size ++ be 8 lsn ++ L s))) := by rw [e', List.take_left' hlen]
  rw [ed] at t2 t3
  have eu : L (⟨u.toArray⟩ : ByteArray) = be 2 s.size ++ (be 8 lsn ++ (le4 (sumOf (be 2 s.size ++ be 8 lsn ++ L s)) ++ u.drop 14)) := by
    have : L (⟨u.toArray⟩ : ByteArray) = u := rfl
    rw [this]
    conv => lhs; rw [← List.take_append_drop 14 u, t1, et]
    simp only [List.append_assoc]
  have hn : (u.drop 14).length = s.size := by rw [t2]; rfl
  rw [dec_of_list eu h2 h8 h4 (by rw [num_be 2 _ (by omega), hn]) (by omega) (by omega) (num_be 8 _ (by omega)) hmm.2.2]
  by_cases hm0 : m = 0
  · have : u.drop 14 = L s := Sum.len_of_val t2 (by rw [t3, hm0, Nat.mul_zero, Nat.xor_zero])
    rw [if_pos hm0, this, if_pos rfl]
  · rw [if_neg hm0, if_neg]
    intro e5
    exact hm0 (sum_turn t2 hk hm t3 (le4_inj (sumOf_lt _) (sumOf_lt _) e5))
theorem be_num : ∀ (n : Nat) (l : List UInt8), l.length = n → be n (num l) = l := by
  intro n
  induction n with
  | zero =>
    intro l h
    have : l = [] := List.eq_nil_of_length_eq_zero h
    subst this
    rfl
  | succ n ih =>
    intro l h
    have hne : l ≠ [] := by rintro rfl; simp at h
    have e := List.dropLast_concat_getLast hne
    have hb := (l.getLast hne).toNat_lt
    rw [← e, num_snoc, be_snoc, show (256 * num l.dropLast + (l.getLast hne).toNat) / 256 = num l.dropLast from by omega, show (256 * num l.dropLast + (l.getLast hne).toNat) % 256 = (l.getLast hne).toNat from by omega, ih _ (by rw [List.length_dropLast]; omega)]
    simp
theorem num_inj {l m : List UInt8} (h : l.length = m.length) (e : num l = num m) : l = m := by
  rw [← be_num _ l rfl, ← be_num _ m rfl, h, e]
theorem set_ne {l : List UInt8} {p : Nat} {v : UInt8} (hp : p < l.length) (hv : v ≠ l[p]) : l.set p v ≠ l := by
  intro e
  have h1 : (l.set p v)[p]? = some v := by rw [List.getElem?_set_self hp]
  rw [e, List.getElem?_eq_getElem hp] at h1
  exact hv (Option.some.inj h1).symm
theorem xor_ne (x : UInt8) {R : Nat} (hR : R < 8) : x ^^^ UInt8.ofNat (2 ^ R) ≠ x := by
  intro e
  have h1 : UInt8.ofNat (2 ^ R) = 0 := by
    have := congrArg (x ^^^ ·) e
    simpa [← UInt8.xor_assoc] using this
  have h2 := congrArg UInt8.toNat h1
  have h3 : 2 ^ R < 256 := Nat.lt_of_lt_of_le (Nat.pow_lt_pow_right (by omega) hR) (by decide)
  have h6 : (UInt8.ofNat (2 ^ R)).toNat = 2 ^ R := by simp; omega
  rw [h6] at h2
  have h4 := Nat.two_pow_pos R
  have h5 : (0 : UInt8).toNat = 0 := rfl
  omega
/-- a bit of the place, or of the sum, is turned -/
theorem dec_bit {lsn : Nat} {s : ByteArray} {p : Nat} {v : UInt8} (hl : lsn < 18446744073709551616) (h : mayF lsn s = true) (h1 : 2 ≤ p) (h2 : p < 14) (hp : p < (L (encF lsn s)).length) (hv : v ≠ (L (encF lsn s))[p]) :
    decE ⟨((L (encF lsn s)).set p v).toArray⟩ lsn = if p < 10 then 7 else 100 := by
  have hmm := may_iff.1 h
  have e := enc_list h
  have l2 : (be 2 s.size).length = 2 := be_length _ _
  have l8 : (be 8 lsn).length = 8 := be_length _ _
  have l4 : (le4 (sumOf (be 2 s.size ++ be 8 lsn ++ L s))).length = 4 := rfl
  have hn : num (be 2 s.size) = s.size := num_be 2 _ (by omega)
  have ha : num (be 8 lsn) = lsn := num_be 8 _ (by omega)
  by_cases h10 : p < 10
  · have hget : (L (encF lsn s))[p] = (be 8 lsn)[p - 2]'(by omega) := by
      rw [List.getElem_of_eq e, List.getElem_append_right (by omega), List.getElem_append_left (by omega)]
      congr 1
    rw [hget] at hv
    have hb : num ((be 8 lsn).set (p - 2) v) ≠ lsn := fun e1 => set_ne (by omega) hv (num_inj (by rw [List.length_set]) (by rw [e1, ha]))
    rw [if_pos h10]
    have eu : L (⟨((L (encF lsn s)).set p v).toArray⟩ : ByteArray) = be 2 s.size ++ ((be 8 lsn).set (p - 2) v ++ (le4 (sumOf (be 2 s.size ++ be 8 lsn ++ L s)) ++ L s)) := by
      show (L (encF lsn s)).set p v = _
      rw [e, List.set_append, if_neg (by omega), l2, List.set_append, if_pos (by omega)]
    obtain ⟨p1, p2, p3, p4, p5, p6⟩ := parts_of (u := ⟨((L (encF lsn s)).set p v).toArray⟩) eu l2 (by rw [List.length_set]; exact l8) l4
    unfold decE
    rw [if_neg (by omega), if_pos]
    rw [p2]
    omega
  · have hget : (L (encF lsn s))[p] = (le4 (sumOf (be 2 s.size ++ be 8 lsn ++ L s)))[p - 10]'(by omega) := by
      rw [List.getElem_of_eq e, List.getElem_append_right (by omega), List.getElem_append_right (by omega), List.getElem_append_left (by omega)]
      congr 1
    rw [hget] at hv
    have hc := set_ne (by omega) hv
    rw [if_neg h10]
    have eu : L (⟨((L (encF lsn s)).set p v).toArray⟩ : ByteArray) = be 2 s.size ++ (be 8 lsn ++ ((le4 (sumOf (be 2 s.size ++ be 8 lsn ++ L s))).set (p - 10) v ++ L s)) := by
      show (L (encF lsn s)).set p v = _
      rw [e, List.set_append, if_neg (by omega), l2, List.set_append, if_neg (by omega), l8, List.set_append, if_pos (by omega), show p - 2 - 8 = p - 10 from by omega]
    have d := dec_of_list (u := ⟨((L (encF lsn s)).set p v).toArray⟩) (lsn := lsn) eu l2 l8 (by rw [List.length_set]; exact l4) (by rw [hn]; rfl) (show 1 ≤ (L s).length from hmm.1) hmm.2.1 ha hmm.2.2
    rw [d, if_neg (fun e1 => hc e1.symm)]

end Go.Proofs.Ytgohpompgiljiaa.Frame
