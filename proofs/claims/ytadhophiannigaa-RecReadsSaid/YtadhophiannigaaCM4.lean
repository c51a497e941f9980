/- Plain mathematics: records that may be, written and read. -/
import Derived.Test.YtadhophiannigaaCM3
namespace Go.Proofs.Ytadhophiannigaa.Rec

theorem pt_facts (k : Nat) : (ptOf k).roll = decide (k = 2) ∧ (ptOf k).next = decide (k = 3) ∧ (ptOf k).number = decide (k = 4) ∧ (ptOf k).tables = decide (k = 8) ∧ (k = 8 → (ptOf k).body = false) ∧ ((ptOf k).body = true → k = 2 ∨ k = 3 ∨ k = 4 ∨ k = 6) := by
  unfold ptOf
  by_cases h1 : k = 1
  · subst h1; decide
  by_cases h5 : k = 5
  · subst h5; decide
  by_cases h2 : k = 2
  · subst h2; decide
  by_cases h3 : k = 3
  · subst h3; decide
  by_cases h4 : k = 4
  · subst h4; decide
  by_cases h6 : k = 6
  · subst h6; decide
  by_cases h7 : k = 7
  · subst h7; decide
  by_cases h8 : k = 8
  · subst h8; decide
  rw [if_neg h1, if_neg h5, if_neg h2, if_neg h3, if_neg h4, if_neg h6, if_neg h7, if_neg h8]
  simp [h2, h3, h4, h8]
/-- what a record that may be has not -/
theorem may_zero {r : Rc} (h : mayC r = true) : (r.kind ≠ 2 → r.page = 0 ∧ r.slot = 0) ∧ (r.kind ≠ 3 → r.next = 0) ∧ (r.kind ≠ 4 → r.number = 0) ∧ (r.kind ≠ 8 → r.ttx = 0 ∧ r.tnum = 0 ∧ r.dirty = [] ∧ r.txns = []) ∧ (¬ (r.kind = 2 ∨ r.kind = 3 ∨ r.kind = 4 ∨ r.kind = 6) → r.body = ⟨#[]⟩) := by
  obtain ⟨f1, f2, f3, f4, f5, f6⟩ := pt_facts r.kind
  simp only [mayC, mayPt, Bool.and_eq_true] at h
  obtain ⟨_, g1, g2, g3, g4, g5, g6⟩ := h
  refine ⟨fun hk => ?_, fun hk => ?_, fun hk => ?_, fun hk => ?_, fun hk => ?_⟩
  · rw [f1, decide_eq_false hk] at g1
    unfold mayRoll at g1
    split at g1
    · exact ⟨by assumption, of_decide_eq_true g1⟩
    · cases g1
  · rw [f2, decide_eq_false hk, Bool.false_or] at g2
    exact of_decide_eq_true g2
  · rw [f3, decide_eq_false hk] at g3
    by_cases h0 : 0 < r.number
    · rw [decide_eq_true h0] at g3; cases g3
    · omega
  · rw [f4, decide_eq_false hk] at g6
    have g6' : nilTab r = true := g6
    simp only [nilTab, Bool.and_eq_true, decide_eq_true_eq] at g6'
    exact ⟨g6'.1, g6'.2.1, g6'.2.2.1, g6'.2.2.2⟩
  · have hb : (ptOf r.kind).body = false := by
      cases hb : (ptOf r.kind).body with
      | false => rfl
      | true => exact absurd (f6 hb) hk
    rw [hb] at g4
    by_cases h0 : 0 < r.body.size
    · rw [decide_eq_true h0] at g4; cases g4
    · exact ByteArray.ext (Array.eq_empty_of_size_eq_zero (by have : r.body.size = 0 := by omega
                                                              exact this))
theorem enc_le (r : Rc) : (encS r).size ≤ 4096 := by
  unfold encS
  split
  · rename_i h
    obtain ⟨h1, h2, h3⟩ := may_lens h
    obtain ⟨z1, z2, z3, z4, z5⟩ := may_zero h
    simp only [bodyS, ByteArray.size_append, head_size]
    by_cases h8 : r.kind = 8
    · have hb := z5 (by omega)
      have : (midS r).size ≤ 2834 := by
        unfold midS
        rw [if_neg (by omega), if_neg (by omega), if_neg (by omega), if_pos h8, tab_size]; omega
      rw [hb, show (⟨#[]⟩ : ByteArray).size = 0 from rfl]
      omega
    · have : (midS r).size ≤ 8 := by
        unfold midS
        split
        · simp only [ByteArray.size_append, nb_size]; omega
        split
        · simp only [nb_size]; omega
        split
        · simp only [nb_size]; omega
        first | exact Nat.zero_le _ | (rw [if_neg h8]; exact Nat.zero_le _)
      omega
  · exact Nat.zero_le _

theorem no_l (s : ByteArray) : (⟨#[]⟩ : ByteArray) ++ s = s := by simp [ByteArray.ext_iff]
theorem no_r (s : ByteArray) : s ++ (⟨#[]⟩ : ByteArray) = s := by simp [ByteArray.ext_iff]
/-- the head that is read -/
theorem head_read {s X : ByteArray} {r : Rc} (hw : r.wf) (hs : s = headS r ++ X) : q3 s = 17 ∧ kd s = r.kind ∧ hB s = true ∧ rdH s = { Rc.zero with kind := r.kind, tx := r.tx, prev := r.prev } := by
  obtain ⟨a1, a2, a3⟩ := tk_mid s ⟨#[]⟩ (nb 8 r.tx ++ (nb 8 r.prev ++ X)) 0 1 r.kind (by rw [hs, no_l]; simp only [headS, ByteArray.append_assoc]) rfl hw.kind
  obtain ⟨b1, b2, b3⟩ := tk_mid s (nb 1 r.kind) (nb 8 r.prev ++ X) 1 8 r.tx (by rw [hs]; simp only [headS, ByteArray.append_assoc]) (nb_size _ _) hw.tx
  obtain ⟨c1, c2, c3⟩ := tk_mid s (nb 1 r.kind ++ nb 8 r.tx) X 9 8 r.prev (by rw [hs]; simp only [headS, ByteArray.append_assoc]) (by rw [ByteArray.size_append, nb_size, nb_size]) hw.prev
  have e1 : q1 s = 1 := a2
  have e2 : q2 s = 9 := by unfold q2; rw [e1]; exact b2
  have e3 : q3 s = 17 := by unfold q3; rw [e2]; exact c2
  refine ⟨e3, a3, ?_, ?_⟩
  · unfold hB; rw [e1, e2, a1, b1, c1]; rfl
  · unfold rdH; rw [e1, e2, b3, c3, show kd s = r.kind from a3]
theorem rest_read {s P b : ByteArray} {t : Nat} (hs : s = P ++ b) (hp : P.size = t) : tkS s t (s.size - t) = b ∧ tkB s t (s.size - t) = true := by
  have hz : s.size = t + b.size := by rw [hs, ByteArray.size_append, hp]
  refine ⟨?_, decide_eq_true (by omega)⟩
  unfold tkS
  rw [if_pos (by omega), hs]
  have := cut_mid P b ⟨#[]⟩ t (t + ((P ++ b).size - t)) hp (by rw [ByteArray.size_append]; omega)
  rw [no_r] at this
  exact this

theorem dec_enc {r : Rc} (hw : r.wf) (hm : mayC r = true) : whB (encS r) = true ∧ rdC (encS r) = r := by
  have e : encS r = bodyS r := by unfold encS; rw [if_pos hm]
  rw [e]
  obtain ⟨z1, z2, z3, z4, z5⟩ := may_zero hm
  obtain ⟨l1, l2, l3⟩ := may_lens hm
  obtain ⟨s, hs⟩ : ∃ s, s = bodyS r := ⟨_, rfl⟩
  rw [← hs]
  have hs1 : s = headS r ++ (midS r ++ r.body) := by rw [hs, bodyS, ByteArray.append_assoc]
  obtain ⟨h1, h2, h3, h4⟩ := head_read hw hs1
  -- the middle
  have M : mT s = 17 + (midS r).size ∧ mB s = true ∧ rdM s = { r with body := ⟨#[]⟩ } := by
    unfold mT mB rdM midS
    unfold midS at hs1
    rw [h2, h1, h3, h4]
    by_cases k2 : r.kind = 2
    · rw [if_pos k2] at hs1
      obtain ⟨a1, a2, a3⟩ := tk_mid s (headS r) (nb 2 r.slot ++ r.body) 17 4 r.page (by rw [hs1]; simp only [ByteArray.append_assoc]) (head_size r) hw.page
      obtain ⟨b1, b2, b3⟩ := tk_mid s (headS r ++ nb 4 r.page) r.body 21 2 r.slot (by rw [hs1]; simp only [ByteArray.append_assoc]) (by rw [ByteArray.size_append, head_size, nb_size]) hw.slot
      rw [if_pos k2, if_pos k2, if_pos k2, if_pos k2, a2, b2, a1, b1, a3, b3, ByteArray.size_append, nb_size, nb_size]
      refine ⟨rfl, rfl, ?_⟩
      obtain ⟨y1, y2, y3, y4⟩ := z4 (by omega)
      have y5 := z2 (by omega)
      have y6 := z3 (by omega)
      obtain ⟨kind, tx, prev, page, slot, next, number, body, dirty, txns, ttx, tnum⟩ := r
      simp only at y1 y2 y3 y4 y5 y6
      subst y1 y2 y3 y4 y5 y6
      rfl
    rw [if_neg k2] at hs1
    rw [if_neg k2, if_neg k2, if_neg k2, if_neg k2]
    obtain ⟨x1, x2⟩ := z1 k2
    by_cases k3 : r.kind = 3
    · rw [if_pos k3] at hs1
      obtain ⟨a1, a2, a3⟩ := tk_mid s (headS r) r.body 17 8 r.next (by rw [hs1]; simp only [ByteArray.append_assoc]) (head_size r) hw.next
      rw [if_pos k3, if_pos k3, if_pos k3, if_pos k3, a2, a1, a3, nb_size]
      refine ⟨rfl, rfl, ?_⟩
      obtain ⟨y1, y2, y3, y4⟩ := z4 (by omega)
      have y6 := z3 (by omega)
      obtain ⟨kind, tx, prev, page, slot, next, number, body, dirty, txns, ttx, tnum⟩ := r
      simp only at y1 y2 y3 y4 y6 x1 x2
      subst y1 y2 y3 y4 y6 x1 x2
      rfl
    rw [if_neg k3] at hs1
    rw [if_neg k3, if_neg k3, if_neg k3, if_neg k3]
    have x3 := z2 k3
    by_cases k4 : r.kind = 4
    · rw [if_pos k4] at hs1
      obtain ⟨a1, a2, a3⟩ := tk_mid s (headS r) r.body 17 8 r.number (by rw [hs1]; simp only [ByteArray.append_assoc]) (head_size r) hw.number
      rw [if_pos k4, if_pos k4, if_pos k4, if_pos k4, a2, a1, a3, nb_size]
      refine ⟨rfl, rfl, ?_⟩
      obtain ⟨y1, y2, y3, y4⟩ := z4 (by omega)
      obtain ⟨kind, tx, prev, page, slot, next, number, body, dirty, txns, ttx, tnum⟩ := r
      simp only at y1 y2 y3 y4 x1 x2 x3
      subst y1 y2 y3 y4 x1 x2 x3
      rfl
    rw [if_neg k4] at hs1
    rw [if_neg k4, if_neg k4, if_neg k4, if_neg k4]
    have x4 := z3 k4
    by_cases k8 : r.kind = 8
    · rw [if_pos k8] at hs1
      rw [if_pos k8, if_pos k8, if_pos k8, if_pos k8]
      have hs2 : s = headS r ++ (nb 8 r.ttx ++ (nb 8 r.tnum ++ (nb 1 r.dirty.length ++ (disS r.dirty ++ (nb 1 r.txns.length ++ (acsS r.txns ++ r.body)))))) := by rw [hs1]; simp only [tabS, ByteArray.append_assoc]
      obtain ⟨a1, a2, a3⟩ := tk_mid s (headS r) (nb 8 r.tnum ++ (nb 1 r.dirty.length ++ (disS r.dirty ++ (nb 1 r.txns.length ++ (acsS r.txns ++ r.body))))) 17 8 r.ttx (by rw [hs2]; simp only [ByteArray.append_assoc]) (head_size r) hw.ttx
      obtain ⟨b1, b2, b3⟩ := tk_mid s (headS r ++ nb 8 r.ttx) (nb 1 r.dirty.length ++ (disS r.dirty ++ (nb 1 r.txns.length ++ (acsS r.txns ++ r.body)))) 25 8 r.tnum (by rw [hs2]; simp only [ByteArray.append_assoc]) (by rw [ByteArray.size_append, head_size, nb_size]) hw.tnum
      obtain ⟨c1, c2, c3⟩ := tk_mid s (headS r ++ nb 8 r.ttx ++ nb 8 r.tnum) (disS r.dirty ++ (nb 1 r.txns.length ++ (acsS r.txns ++ r.body))) 33 1 r.dirty.length (by rw [hs2]; simp only [ByteArray.append_assoc]) (by rw [ByteArray.size_append, ByteArray.size_append, head_size, nb_size, nb_size]) (by omega)
      obtain ⟨d1, d2, d3⟩ := dis_read r.dirty.length r.dirty s (headS r ++ nb 8 r.ttx ++ nb 8 r.tnum ++ nb 1 r.dirty.length) (nb 1 r.txns.length ++ (acsS r.txns ++ r.body)) 34 rfl (by rw [hs2]; simp only [ByteArray.append_assoc]) (by simp only [ByteArray.size_append, head_size, nb_size]) (fun d hd => by obtain ⟨i, hi⟩ := List.getElem?_of_mem hd; exact hw.each i d hi)
      obtain ⟨e1, e2, e3⟩ := tk_mid s (headS r ++ nb 8 r.ttx ++ nb 8 r.tnum ++ nb 1 r.dirty.length ++ disS r.dirty) (acsS r.txns ++ r.body) (34 + 12 * r.dirty.length) 1 r.txns.length (by rw [hs2]; simp only [ByteArray.append_assoc]) (by simp only [ByteArray.size_append, head_size, nb_size, dis_size]) (by omega)
      obtain ⟨g1, g2, g3⟩ := acs_read r.txns.length r.txns s (headS r ++ nb 8 r.ttx ++ nb 8 r.tnum ++ nb 1 r.dirty.length ++ disS r.dirty ++ nb 1 r.txns.length) r.body (34 + 12 * r.dirty.length + 1) rfl (by rw [hs2]; simp only [ByteArray.append_assoc]) (by simp only [ByteArray.size_append, head_size, nb_size, dis_size]) (fun d hd => by obtain ⟨i, hi⟩ := List.getElem?_of_mem hd; exact hw.eacht i d hi)
      have u1 : t1 s 17 = 25 := a2
      have u2 : t2 s 17 = 33 := by unfold t2; rw [u1]; exact b2
      have un : tn s 17 = r.dirty.length := by unfold tn; rw [u2]; exact c3
      have u3 : t3 s 17 = 34 := by unfold t3; rw [u2]; exact c2
      have u4 : t4 s 17 = 34 + 12 * r.dirty.length := by unfold t4; rw [u3, un]; exact d2
      have um : tm s 17 = r.txns.length := by unfold tm; rw [u4]; exact e3
      have u5 : t5 s 17 = 34 + 12 * r.dirty.length + 1 := by unfold t5; rw [u4]; exact e2
      have u6 : t6 s 17 = 34 + 12 * r.dirty.length + 1 + 32 * r.txns.length := by unfold t6; rw [u5, um]; exact g2
      refine ⟨by rw [u6, tab_size]; omega, ?_, ?_⟩
      · unfold tB
        rw [u1, u2, u3, u4, u5, un, um, a1, b1, c1, d1, e1, g1]; rfl
      · have et : tabOf s 17 = { Rc.zero with ttx := r.ttx, tnum := r.tnum, dirty := r.dirty, txns := r.txns } := by
          unfold tabOf
          rw [u1, u3, u5, un, um, a3, b3, d3, g3]
        rw [et]
        obtain ⟨kind, tx, prev, page, slot, next, number, body, dirty, txns, ttx, tnum⟩ := r
        simp only at x1 x2 x3 x4
        subst x1 x2 x3 x4
        rfl
    rw [if_neg k8] at hs1
    rw [if_neg k8, if_neg k8, if_neg k8, if_neg k8]
    refine ⟨rfl, rfl, ?_⟩
    obtain ⟨y1, y2, y3, y4⟩ := z4 k8
    obtain ⟨kind, tx, prev, page, slot, next, number, body, dirty, txns, ttx, tnum⟩ := r
    simp only at y1 y2 y3 y4 x1 x2 x3 x4
    subst y1 y2 y3 y4 x1 x2 x3 x4
    rfl
  obtain ⟨m1, m2, m3⟩ := M
  obtain ⟨r1, r2⟩ := rest_read (s := s) (P := headS r ++ midS r) (b := r.body) (t := mT s) hs (by rw [ByteArray.size_append, head_size, m1])
  refine ⟨by unfold whB; rw [m2, r2]; rfl, ?_⟩
  unfold rdC
  rw [m3, r1]

theorem enc_inj {a b : Rc} (ha : a.wf) (hb : b.wf) (ma : mayC a = true) (mb : mayC b = true) (h : encS a = encS b) : a = b := by
  have h1 := (dec_enc ha ma).2
  have h2 := (dec_enc hb mb).2
  rw [← h1, h, h2]

end Go.Proofs.Ytadhophiannigaa.Rec
