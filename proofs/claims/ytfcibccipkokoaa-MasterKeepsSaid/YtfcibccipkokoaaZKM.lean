/- Plain mathematics: what two sectors hold while masters are stored, one by one. -/
import Derived.Test.YtfcibccipkokoaaZCA
namespace Go.Proofs.Ytfcibccipkokoaa.Mas
open Go.Proofs.Ytfcibccipkokoaa.Disk (D now burnt fullL settleAll kept settle newest)

/-- the master that is stored behind n -/
def adj (m n : Ms) : Ms := ⟨n.count + 1, m.life ||| 1, if m.check ≠ 0 ∧ m.check < m.first ||| 1 then m.first ||| 1 else m.check, m.first ||| 1, m.clean⟩
theorem or_pos (a : Nat) : 0 < a ||| 1 := by
  have : a ||| 1 ≠ 0 := by
    intro h
    have := Nat.or_eq_zero_iff.1 h
    omega
  omega
theorem or_lt {a : Nat} (h : a < 18446744073709551616) : a ||| 1 < 18446744073709551616 := Nat.or_lt_two_pow (n := 64) h (by decide)
theorem adj_wf {m n : Ms} (h : m.wf) (hn : n.count < 1000000) : (adj m n).wf := by
  refine ⟨?_, or_lt h.life, ?_, or_lt h.first⟩
  · show n.count + 1 < _; omega
  · show (if m.check ≠ 0 ∧ m.check < m.first ||| 1 then m.first ||| 1 else m.check) < _
    split
    · exact or_lt h.first
    · exact h.check
theorem adj_ok (m n : Ms) : okM (adj m n) = true := by
  refine okM_mk (Nat.succ_pos _) (or_pos _) (or_pos _) ?_
  show (if m.check ≠ 0 ∧ m.check < m.first ||| 1 then m.first ||| 1 else m.check) = 0 ∨ m.first ||| 1 ≤ (if m.check ≠ 0 ∧ m.check < m.first ||| 1 then m.first ||| 1 else m.check)
  split
  · exact .inr (Nat.le_refl _)
  · omega
theorem adj_count (m n : Ms) : (adj m n).count = n.count + 1 := rfl

def secD (d : D) (k : Nat) : ByteArray := ⟨(d.sure.getD k []).toArray⟩
/-- two sectors, n is the newer master of them -/
structure Holds (d : D) (n : Ms) : Prop where
  len : d.sure.length = 2
  loose : d.loose = []
  wf : n.wf
  ok : okM n = true
  load : loadO (secD d 0) (secD d 1) = some n

theorem now_sec {d : D} (h : d.loose = []) (k : Nat) : nowB d k = secD d k := by
  unfold nowB secD now
  rw [h]
  rfl
theorem Holds.loads {d : D} {n : Ms} (h : Holds d n) : loadM (nowB d 0) (nowB d 1) = n ∧ loadE (nowB d 0) (nowB d 1) = 0 := by
  rw [now_sec h.loose, now_sec h.loose]
  unfold loadM loadE
  rw [h.load]
  exact ⟨rfl, rfl⟩
theorem Holds.fuse {d : D} {n : Ms} (h : Holds d n) (f : Int) : Holds (d.setFuse f) n := ⟨h.len, h.loose, h.wf, h.ok, h.load⟩

theorem stands_enc {m : Ms} (hw : m.wf) (hm : okM m = true) (k : Nat) (hk : m.count % 2 = k) : stands (encB m) k = true ∧ rdM (encB m) = m := by
  have h1 := isM_sec hw hm
  have h2 := dec_enc hw hm
  have h3 : rdM (encB m) = m := by rw [← (dec_yes h1).1, h2.1]
  refine ⟨?_, h3⟩
  unfold stands
  rw [h1, h3, hk]
  simp
theorem load_parts {a b : ByteArray} {n : Ms} (h : loadO a b = some n) : (n.count % 2 = 0 ∧ stands a 0 = true ∧ rdM a = n) ∨ (n.count % 2 = 1 ∧ stands b 1 = true ∧ rdM b = n) := by
  unfold loadO at h
  cases h1 : stands a 0 with
  | true =>
    rw [h1] at h
    have p1 : (rdM a).count % 2 = 0 := by unfold stands at h1; simpa using (Bool.and_eq_true_iff.1 h1).2
    cases h2 : stands b 1 with
    | true =>
      rw [h2] at h
      have p2 : (rdM b).count % 2 = 1 := by unfold stands at h2; simpa using (Bool.and_eq_true_iff.1 h2).2
      by_cases hc : (rdM b).count < (rdM a).count
      · rw [decide_eq_true hc] at h
        have h : some (rdM a) = some n := h
        cases h
        exact .inl ⟨p1, rfl, rfl⟩
      · rw [decide_eq_false hc] at h
        have h : some (rdM b) = some n := h
        cases h
        exact .inr ⟨p2, rfl, rfl⟩
    | false =>
      rw [h2] at h
      have h : some (rdM a) = some n := h
      cases h
      exact .inl ⟨p1, rfl, rfl⟩
  | false =>
    rw [h1] at h
    cases h2 : stands b 1 with
    | true =>
      rw [h2] at h
      have p2 : (rdM b).count % 2 = 1 := by unfold stands at h2; simpa using (Bool.and_eq_true_iff.1 h2).2
      have h : some (rdM b) = some n := h
      cases h
      exact .inr ⟨p2, rfl, rfl⟩
    | false =>
      rw [h2] at h
      have h : none = some n := h
      cases h
/-- one more is stored where the elder one stood -/
theorem load_next {a b : ByteArray} {n m : Ms} (h : loadO a b = some n) (hw : m.wf) (hm : okM m = true) (hc : m.count = n.count + 1) :
    (m.count % 2 = 0 → loadO (encB m) b = some m) ∧ (m.count % 2 = 1 → loadO a (encB m) = some m) := by
  refine ⟨fun hk => ?_, fun hk => ?_⟩
  · obtain ⟨s1, s2⟩ := stands_enc hw hm 0 hk
    rcases load_parts h with ⟨p, _, _⟩ | ⟨p, q1, q2⟩
    · omega
    · unfold loadO
      rw [s1, s2, q1, q2, decide_eq_true (by omega)]
      rfl
  · obtain ⟨s1, s2⟩ := stands_enc hw hm 1 hk
    rcases load_parts h with ⟨p, q1, q2⟩ | ⟨p, _, _⟩
    · unfold loadO
      rw [s1, s2, q1, q2, decide_eq_false (by omega)]
      rfl
    · omega
theorem sec_set (d : D) (hl : d.sure.length = 2) (k : Nat) (m : Ms) (lo : List (Nat × List UInt8)) (f : Int) :
    (k = 0 → secD ⟨d.sure.set k (encL m), lo, f⟩ 0 = encB m ∧ secD ⟨d.sure.set k (encL m), lo, f⟩ 1 = secD d 1) ∧ (k = 1 → secD ⟨d.sure.set k (encL m), lo, f⟩ 0 = secD d 0 ∧ secD ⟨d.sure.set k (encL m), lo, f⟩ 1 = encB m) := by
  obtain ⟨s, l, g⟩ := d
  match s, hl with
  | [x, y], _ =>
    refine ⟨?_, ?_⟩
    · rintro rfl; exact ⟨rfl, rfl⟩
    · rintro rfl; exact ⟨rfl, rfl⟩
/-- with it in its sector, sure, it is the newer one -/
theorem Holds.next {d : D} {n m : Ms} (h : Holds d n) (hw : m.wf) (hm : okM m = true) (hc : m.count = n.count + 1) (f : Int) : Holds ⟨d.sure.set (m.count % 2) (encL m), [], f⟩ m := by
  obtain ⟨k1, k2⟩ := load_next h.load hw hm hc
  obtain ⟨s1, s2⟩ := sec_set d h.len (m.count % 2) m [] f
  refine ⟨by show (d.sure.set _ _).length = 2; rw [List.length_set]; exact h.len, rfl, hw, hm, ?_⟩
  have hp : m.count % 2 = 0 ∨ m.count % 2 = 1 := by omega
  rcases hp with hp | hp
  · obtain ⟨e1, e2⟩ := s1 hp
    rw [e1, e2]
    exact k1 hp
  · obtain ⟨e1, e2⟩ := s2 hp
    rw [e1, e2]
    exact k2 hp
/-- the first one -/
theorem Holds.first {m : Ms} (hw : m.wf) (hm : okM m = true) (f : Int) : Holds ⟨(D.new 2).sure.set (m.count % 2) (encL m), [], f⟩ m := by
  obtain ⟨s1, s2⟩ := sec_set (D.new 2) rfl (m.count % 2) m [] f
  refine ⟨by show ((D.new 2).sure.set _ _).length = 2; rw [List.length_set]; rfl, rfl, hw, hm, ?_⟩
  have z0 : stands (secD (D.new 2) 0) 0 = false := stands_no not_full 0
  have z1 : stands (secD (D.new 2) 1) 1 = false := stands_no not_full 1
  have hp : m.count % 2 = 0 ∨ m.count % 2 = 1 := by omega
  rcases hp with hp | hp
  · obtain ⟨e1, e2⟩ := s1 hp
    obtain ⟨t1, t2⟩ := stands_enc hw hm 0 hp
    rw [e1, e2]
    unfold loadO
    rw [t1, t2, z1]
    rfl
  · obtain ⟨e1, e2⟩ := s2 hp
    obtain ⟨t1, t2⟩ := stands_enc hw hm 1 hp
    rw [e1, e2]
    unfold loadO
    rw [t1, t2, z0]
    rfl

/-! ### what Store makes of the disk -/
theorem store_done {d : D} {n m : Ms} (h : Holds d n) (h0 : d.fuse ≠ 0) (h1 : burnt d.fuse ≠ 0) (hw : m.wf) (hm : okM m = true) (hc : m.count = n.count + 1) :
    storeD d (m.count % 2) (encL m) = ⟨d.sure.set (m.count % 2) (encL m), [], burnt (burnt d.fuse)⟩ ∧ storeE d = 0 ∧ Holds (storeD d (m.count % 2) (encL m)) m := by
  have e : storeD d (m.count % 2) (encL m) = ⟨d.sure.set (m.count % 2) (encL m), [], burnt (burnt d.fuse)⟩ := by
    unfold storeD
    rw [if_neg h0, if_neg h1]
    unfold D.write D.sync
    rw [h.loose]
    rfl
  exact ⟨e, by unfold storeE; rw [if_neg h0, if_neg h1], by rw [e]; exact h.next hw hm hc _⟩
theorem store_first {m : Ms} (_hw : m.wf) (_hm : okM m = true) : storeD (D.new 2) (m.count % 2) (encL m) = ⟨(D.new 2).sure.set (m.count % 2) (encL m), [], -1⟩ ∧ storeE (D.new 2) = 0 := ⟨rfl, rfl⟩
theorem Holds.crash {d : D} {n : Ms} (h : Holds d n) (ks : List Bool) : Holds (d.crash ks) n := by
  have e : d.crash ks = ⟨d.sure, [], -1⟩ := by
    unfold D.crash
    rw [h.loose]
    rfl
  rw [e]
  exact ⟨h.len, rfl, h.wf, h.ok, h.load⟩
/-- what a Store that was cut off leaves behind a crash -/
theorem store_cut {d : D} {n m : Ms} (h : Holds d n) (h0 : d.fuse = 0 ∨ burnt d.fuse = 0) (hw : m.wf) (hm : okM m = true) (hc : m.count = n.count + 1) (kp : Bool) :
    storeE d = 40 ∧ (Holds ((storeD d (m.count % 2) (encL m)).crash [kp, kp]) n ∨ Holds ((storeD d (m.count % 2) (encL m)).crash [kp, kp]) m) := by
  by_cases hz : d.fuse = 0
  · refine ⟨by unfold storeE; rw [if_pos hz], .inl ?_⟩
    unfold storeD
    rw [if_pos hz]
    exact h.crash _
  · have hb : burnt d.fuse = 0 := h0.resolve_left hz
    refine ⟨by unfold storeE; rw [if_neg hz, if_pos hb], ?_⟩
    unfold storeD
    rw [if_neg hz, if_pos hb]
    unfold D.write D.crash
    rw [h.loose]
    cases kp with
    | true => exact .inr (h.next hw hm hc _)
    | false => exact .inl ⟨h.len, rfl, h.wf, h.ok, h.load⟩
theorem loose_cut {d : D} {n : Ms} (h : Holds d n) (k : Nat) (t : List UInt8) : (storeD d k t).loose.length ≤ 1 := by
  unfold storeD
  split
  · rw [h.loose]; exact Nat.zero_le _
  · split
    · show (d.loose ++ [_]).length ≤ 1
      rw [h.loose]; exact Nat.le_refl _
    · exact Nat.zero_le _
theorem sure_store {d : D} (k : Nat) (t : List UInt8) (h : d.sure.length = 2) (_hl : d.loose = []) : (storeD d k t).sure.length = 2 := by
  unfold storeD
  split
  · exact h
  · split
    · exact h
    · show (settleAll d.sure (d.loose ++ [_])).length = 2
      rw [Disk.settleAll_len]
      exact h
theorem fuse_store {d : D} (k : Nat) (t : List UInt8) (h0 : 0 ≤ d.fuse) (h1 : d.fuse ≤ 39) : 0 ≤ (storeD d k t).fuse ∧ (storeD d k t).fuse ≤ 39 := by
  have hb : ∀ f : Int, 0 ≤ f → f ≤ 39 → 0 ≤ burnt f ∧ burnt f ≤ 39 := fun f a b => by unfold burnt; split <;> omega
  unfold storeD
  split
  · exact ⟨h0, h1⟩
  · split
    · exact hb _ h0 h1
    · obtain ⟨a, b⟩ := hb _ h0 h1
      exact hb _ a b
end Go.Proofs.Ytfcibccipkokoaa.Mas
