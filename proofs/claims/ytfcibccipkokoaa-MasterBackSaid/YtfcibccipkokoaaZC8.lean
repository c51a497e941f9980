/- Walks: which of what two sectors have is loaded. -/
import Derived.Test.YtfcibccipkokoaaZC7
namespace Go.Proofs.Ytfcibccipkokoaa.Mas
open Go.RowKit
attribute [local go_sem ↓] Go.wp_at_zero Go.wp_at_succ

/-- the newer one, once the text t was looked at, at the place k -/
def newer (q : Ms) (t : ByteArray) (k : Nat) : Ms := if isM t = true ∧ (rdM t).count % 2 = k ∧ q.count < (rdM t).count then rdM t else q
theorem load_eq (a b : ByteArray) : loadM a b = newer (newer Ms.zero a 0) b 1 ∧ loadE a b = if (newer (newer Ms.zero a 0) b 1).count = 0 then 120 else 0 := by
  have ha : isM a = true → 0 < (rdM a).count := fun h => okM_count (isM_enc h).2
  have hb : isM b = true → 0 < (rdM b).count := fun h => okM_count (isM_enc h).2
  have z0 : Ms.zero.count = 0 := rfl
  have e1 : newer Ms.zero a 0 = if stands a 0 then rdM a else Ms.zero := by
    unfold newer stands
    by_cases h1 : isM a = true
    · have := ha h1
      by_cases h2 : (rdM a).count % 2 = 0
      · rw [if_pos ⟨h1, h2, by omega⟩, if_pos (by simp [h1, h2])]
      · rw [if_neg (fun h => h2 h.2.1), if_neg (by simp [h2])]
    · rw [if_neg (fun h => h1 h.1), if_neg (by simp [h1])]
  have e2 : ∀ q : Ms, newer q b 1 = if stands b 1 && decide (q.count < (rdM b).count) then rdM b else q := fun q => by
    unfold newer stands
    by_cases h1 : isM b = true
    · by_cases h2 : (rdM b).count % 2 = 1
      · by_cases h3 : q.count < (rdM b).count
        · rw [if_pos ⟨h1, h2, h3⟩, if_pos (by simp [h1, h2, h3])]
        · rw [if_neg (fun h => h3 h.2.2), if_neg (by simp [h3])]
      · rw [if_neg (fun h => h2 h.2.1), if_neg (by simp [h2])]
    · rw [if_neg (fun h => h1 h.1), if_neg (by simp [h1])]
  have sa : stands a 0 = true → isM a = true ∧ (rdM a).count % 2 = 0 := fun h => by unfold stands at h; simpa using h
  have sb : stands b 1 = true → isM b = true ∧ (rdM b).count % 2 = 1 := fun h => by unfold stands at h; simpa using h
  rw [e2, e1]
  unfold loadM loadE loadO
  cases h1 : stands a 0 with
  | false =>
    cases h2 : stands b 1 with
    | false => simp [z0]
    | true =>
      have := hb (sb h2).1
      simp [z0, this]
      omega
  | true =>
    obtain ⟨k1, k2⟩ := sa h1
    have p1 := ha k1
    cases h2 : stands b 1 with
    | false => simp; omega
    | true =>
      obtain ⟨k3, k4⟩ := sb h2
      have p2 := hb k3
      by_cases h3 : (rdM b).count < (rdM a).count
      · have h4 : ¬ (rdM a).count < (rdM b).count := by omega
        simp [h3, h4]; omega
      · have h4 : (rdM a).count < (rdM b).count := by omega
        simp [h3, h4]; omega

/-- the newer one behind k of the two -/
def newerTo (k : Nat) (a b : ByteArray) : Ms := if k = 0 then Ms.zero else if k = 1 then newer Ms.zero a 0 else newer (newer Ms.zero a 0) b 1
theorem newerTo0 (a b : ByteArray) : newerTo 0 a b = Ms.zero := by unfold newerTo; rw [if_pos rfl]
theorem newerTo1 (a b : ByteArray) : newerTo 1 a b = newer Ms.zero a 0 := by unfold newerTo; rw [if_neg (by decide), if_pos rfl]
theorem newerTo2 (a b : ByteArray) : newerTo 2 a b = newer (newer Ms.zero a 0) b 1 := by unfold newerTo; rw [if_neg (by decide), if_neg (by decide)]
theorem newer_zero (q : Ms) (t : ByteArray) (k : Nat) (h : (newer q t k).count = 0) : newer q t k = q := by
  unfold newer at h ⊢
  by_cases c : isM t = true ∧ (rdM t).count % 2 = k ∧ q.count < (rdM t).count
  · rw [if_pos c] at h
    omega
  · rw [if_neg c]
theorem newerTo_zero (a b : ByteArray) (h : (newerTo 2 a b).count = 0) : newerTo 2 a b = Ms.zero := by
  rw [newerTo2] at h ⊢
  have h1 := newer_zero _ _ _ h
  rw [h1] at h ⊢
  exact newer_zero _ _ _ h
/-- the boxes of a call of Load: the result's, the two texts', the newest one's -/
structure Lb (w0 w : World) (r g q : Nat) (a b : ByteArray) (m : Ms) : Prop where
  res : Mb w0 w r Ms.zero
  two : w.heap[g]? = some (.cells (twoC a b) 97 (0, 0))
  new : Mb w0 w q m
  ne : r ≠ q
  ng : g ≠ q
section
variable {w0 w w' : World} {r g q : Nat} {a b : ByteArray} {m m' : Ms}
theorem Lb.later (h : Lb w0 w r g q a b m) (t : Below w.heap.size w w') : Lb w0 w' r g q a b m :=
  ⟨h.res.later t, (t.block _ (Array.getElem?_eq_some_iff.1 h.two).1).trans h.two, h.new.later t, h.ne, h.ng⟩
theorem Lb.set (h : Lb w0 w r g q a b m) (m' : Ms) : Lb w0 (w.setRow q (msC m')) r g q a b m' := by
  have b1 := below_setRow h.new.below h.new.own (msC m')
  exact ⟨⟨by rw [setRow_other _ _ _ _ h.ne]; exact h.res.box, h.res.own, b1⟩, by rw [setRow_other _ _ _ _ h.ng]; exact h.two, ⟨setRow_heap _ _ _ _ _ _ h.new.box, h.new.own, b1⟩, h.ne, h.ng⟩
theorem Lb.cells (h : Lb w0 w r g q a b m) : w.cell? ⟨g, 0, none⟩ = some (.string a) ∧ w.cell? ⟨g, 1, none⟩ = some (.string b) := by
  refine ⟨?_, ?_⟩ <;> (rw [cell_of_row _ _ _ _ _ _ h.two]; rfl)
end

set_option maxRecDepth 100000 in
set_option maxHeartbeats 4000000 in
theorem load_no (v : Value) (n : Nat) (w : World) (x : Int) (hx : x ≠ 0)
    (hs : ∀ W, Below w.heap.size w W → Calls Try.prog 47 #[v, .int .i64 (n : Int)] W fun e w' => e = .returned (.tuple #[.agg (twoC noB noB), .int .i64 x]) ∧ Below W.heap.size W w') :
    Calls Try.prog 22 #[v, .int .i64 (n : Int)] w fun e w' => e = .returned (.tuple #[msV Ms.zero, .int .i64 x]) ∧ Below w.heap.size w w' := by
  have T0 := Lib.hid (Mb.new Ms.zero (Below.refl w.heap.size w))
  have KS := Lib.hid hs
  have x1 : (x == 0) = false := by simpa using hx
  have x2 : (x != 0) = true := by simpa using hx
  clear hs hx
  have hZ : msC Ms.zero = #[.int .u64 0, .int .u64 0, .int .u64 0, .int .u64 0, .bool false] := rfl
  rw [hZ] at T0
  clear hZ
  unfold twoC noB at KS
  go_enter Try.func22, Try.ntmps22
  go_wp2_with fail
  refine (KS.out _ T0.out.below).mono ?_
  rintro e w1 ⟨rfl, b1⟩
  have T1 := Lib.hid (T0.out.later b1)
  clear b1 T0 KS
  have HB := Lib.hid (T1.out.later (below_new w1 (.cells #[.string ⟨#[]⟩, .string ⟨#[]⟩] 97))).box
  have HL := Lib.hid (T1.out.later (below_new w1 (.cells #[.string ⟨#[]⟩, .string ⟨#[]⟩] 97))).below
  clear T1
  go_wp2_with (refine wpList_store_row rfl 40 _ _ rfl w.heap.size (msC Ms.zero) rfl rfl 40 (msC Ms.zero) HB.out info_ms rfl (ms_one _) ?_)
  exact bodyPost_ret (v := .tuple #[msV Ms.zero, .int .i64 x]) (results_two Try.results22 _ _ w.heap.size (msC Ms.zero) x rfl rfl (setRow_heap _ _ _ _ _ _ HB.out) Try.underlying40 info_ms) rfl ⟨rfl, below_setRow HL.out (Nat.le_refl _) _⟩

/-- what Load answers of two sectors -/
def LoadP (a b : ByteArray) (w : World) (e : Ending) (w' : World) : Prop := e = .returned (.tuple #[msV (loadM a b), .int .i64 (loadE a b)]) ∧ Below w.heap.size w w'

set_option maxRecDepth 100000 in
set_option maxHeartbeats 4000000 in
theorem load_yes (v : Value) (n : Nat) (w : World) (a b : ByteArray) (ha : a.size ≤ 281474976710656) (hb : b.size ≤ 281474976710656)
    (hs : ∀ W, Below w.heap.size w W → Calls Try.prog 47 #[v, .int .i64 (n : Int)] W fun e w' => e = .returned (.tuple #[.agg (twoC a b), .int .i64 0]) ∧ Below W.heap.size W w') :
    Calls Try.prog 22 #[v, .int .i64 (n : Int)] w (LoadP a b w) := by
  have T0 := Lib.hid (Mb.new Ms.zero (Below.refl w.heap.size w))
  have HP := Lib.hid (show ∀ (m : Ms) (x : Int) (W : World), loadM a b = m → loadE a b = x → Below w.heap.size w W → LoadP a b w (.returned (.tuple #[msV m, .int .i64 x])) W from fun m x W h1 h2 hb => ⟨by rw [h1, h2], hb⟩)
  have KS := Lib.hid hs
  obtain ⟨l1, l2⟩ := load_eq a b
  have L1 := Lib.hid l1
  have L2 := Lib.hid l2
  have KA := Lib.hid (fun W => decode_any a W ha)
  have KB := Lib.hid (fun W => decode_any b W hb)
  clear hs ha hb l1 l2
  have hZ : msC Ms.zero = #[.int .u64 0, .int .u64 0, .int .u64 0, .int .u64 0, .bool false] := rfl
  rw [hZ] at T0
  clear hZ
  unfold twoC at KS
  go_enter Try.func22, Try.ntmps22
  go_wp2_with fail
  refine (KS.out _ T0.out.below).mono ?_
  rintro e w1 ⟨rfl, b1⟩
  have T1 := Lib.hid (T0.out.later b1)
  clear b1 T0 KS
  go_wp2_with fail
  obtain ⟨g, hg⟩ : ∃ g, g = w1.heap.size := ⟨_, rfl⟩
  obtain ⟨q, hq⟩ : ∃ q, q = w1.heap.size + 1 := ⟨_, rfl⟩
  have T2 : Hid (Lb w ((w1.alloc (.cells (twoC a b) 97)).alloc (.cells (msC Ms.zero) 40)) w.heap.size g q a b Ms.zero) := by
    refine Lib.hid ?_
    have z1 : (w1.alloc (.cells (twoC a b) 97)).heap.size = w1.heap.size + 1 := by simp
    have hlt := T1.out.lt
    have b2 := below_new w1 (.cells (twoC a b) 97)
    have n1 := heap_alloc_new w1 (.cells (twoC a b) 97)
    have m1 := T1.out.later b2
    have m2 := Mb.new Ms.zero m1.below
    have b3 := below_new (w1.alloc (.cells (twoC a b) 97)) (.cells (msC Ms.zero) 40)
    rw [z1] at m2
    rw [hg, hq]
    exact ⟨m1.later b3, (b3.block _ (by rw [z1]; omega)).trans n1, m2, by omega, by omega⟩
  have hZ : msC Ms.zero = #[.int .u64 0, .int .u64 0, .int .u64 0, .int .u64 0, .bool false] := rfl
  rw [hZ] at T2
  unfold twoC at T2
  rw [← hq, ← hg]
  obtain ⟨r, hr⟩ : ∃ r, r = w.heap.size := ⟨_, rfl⟩
  rw [← hr] at T2 ⊢
  have HR := Lib.hid hr
  clear hr hg hq hZ T1
  generalize World.alloc _ (.cells #[.int .u64 0, .int .u64 0, .int .u64 0, .int .u64 0, .bool false] 40) = W0 at *
  go_loopw [22] (fun i wr => ∃ (k : Nat) (x : Int), k ≤ 2 ∧ x = (k : Int) ∧ i = .int .i64 x ∧ Lb w wr r g q a b (newerTo k a b)) (fun i _ => 2 - (intOf i).toNat)
  case atStart => exact ⟨0, 0, by omega, rfl, rfl, by rw [newerTo0]; exact T2.out⟩
  case round =>
    obtain ⟨k, x, hk, hx, rfl, ht⟩ := hrel
    clear T2
    have T2 := Lib.hid ht
    clear ht
    have e : k = 0 ∨ k = 1 ∨ k = 2 := by omega
    rcases e with rfl | rfl | rfl
    · obtain rfl : x = 0 := by omega
      clear hx hk
      have hc := T2.out.cells.1
      obtain ⟨m, hm⟩ : ∃ m, m = Ms.zero := ⟨_, rfl⟩
      have T3 : Hid (Lb w wr r g q a b m) := Lib.hid (by rw [hm, ← newerTo0 a b]; exact T2.out)
      have HM := Lib.hid (show ∀ z, newer m a 0 = z → newerTo 1 a b = z from fun z hz => by rw [← hz, hm, newerTo1])
      clear hm T2
      go_wp2_with fail
      refine (KA.out _).mono ?_
      rintro e w3 ⟨rfl, b3⟩
      have T4 := Lib.hid (T3.out.later b3)
      clear b3 T3 KA hc
      have TU := Lib.hid (fun W => turn_any (rdM a) W (rd_wf a))
      have N := Lib.hid (show newer m a 0 = if isM a = true ∧ (rdM a).count % 2 = 0 ∧ m.count < (rdM a).count then rdM a else m from rfl)
      cases h1 : isM a with
      | false =>
        obtain ⟨d1, d2⟩ := dec_no h1
        have HN := Lib.hid (HM.out m (by rw [N.out, h1, if_neg (fun h => by cases h.1)]))
        rw [d1, d2]
        unfold msV msC Ms.zero
        clear d1 d2 h1 HM N TU
        have T5 := Lib.hid (T4.out.later (below_new w3 (.cells #[.int .u64 ((0 : Nat) : Int), .int .u64 ((0 : Nat) : Int), .int .u64 ((0 : Nat) : Int), .int .u64 ((0 : Nat) : Int), .bool false] 40)))
        go_wp2_with fail
        go_roundw
        case rel => exact ⟨1, 1, by omega, rfl, rfl, by rw [HN.out]; exact T5.out⟩
        case measure => simp [intOf]
      | true =>
        obtain ⟨d1, d2⟩ := dec_yes h1
        rw [d1, d2]
        have MD := Lib.hid (show ∀ W, Calls Try.prog 48 #[msV (rdM a)] W _ from fun W => turn_any (rdM a) W (rd_wf a))
        have RW' := Lib.hid (rd_wf a)
        rw [h1] at N
        clear d1 d2 h1 TU
        generalize rdM a = u at *
        have hP := Mb.new u T4.out.res.below
        have T5 := T4.out.later (below_new w3 (.cells (msC u) 40))
        unfold msV at MD ⊢
        have q0 : (∃ z, (u.count % 2 : Nat) = z) := ⟨_, rfl⟩
        obtain ⟨z, hz⟩ := q0
        rw [hz] at N MD
        have HZ := Lib.hid hz
        clear hz
        have P5 := Lib.hid hP
        have T6 := Lib.hid T5
        clear hP T5 T4
        unfold msC at P5 T6 MD ⊢
        go_upto_region 9 with fail
        generalize World.alloc w3 _ = W5 at *
        generalize w3.heap.size = p at *
        obtain ⟨p0, p1, p2, p3, p4⟩ := P5.out.five
        go_wp2_with fail
        refine (MD.out _).mono ?_
        rintro e w6 ⟨rfl, b6⟩
        have P7 := Lib.hid (P5.out.later b6)
        have T7 := Lib.hid (T6.out.later b6)
        clear b6 P5 T6 MD p0 p1 p2 p3 p4
        by_cases hzk : z = 0
        · subst hzk
          obtain ⟨p0, p1, p2, p3, p4⟩ := P7.out.five
          have n0 := T7.out.new.five.1
          by_cases hlt : m.count < u.count
          · have HN := Lib.hid (HM.out u (by rw [N.out, if_pos (by simp [hlt])]))
            have HB := Lib.hid T7.out.new.box
            have TS := Lib.hid (T7.out.set u)
            have e1 : decide ((m.count : Int) < (u.count : Int)) = true := decide_eq_true (by omega)
            clear HM N T7
            go_wp2_with (refine wpList_store_row rfl 40 _ _ rfl q (msC u) rfl rfl 40 (msC m) HB.out info_ms rfl (ms_one _) ?_)
            go_roundw
            case rel => exact ⟨1, 1, by omega, rfl, rfl, by rw [HN.out]; exact TS.out⟩
            case measure => simp [intOf]
          · have HN := Lib.hid (HM.out m (by rw [N.out, if_neg (fun h => hlt h.2.2)]))
            have e1 : decide ((m.count : Int) < (u.count : Int)) = false := decide_eq_false (by omega)
            clear HM N
            go_wp2_with fail
            go_roundw
            case rel => exact ⟨1, 1, by omega, rfl, rfl, by rw [HN.out]; exact T7.out⟩
            case measure => simp [intOf]
        · have HN := Lib.hid (HM.out m (by rw [N.out, if_neg (fun h => hzk h.2.1)]))
          have e1 : ((z : Int) == 0) = false := by rw [beq_eq_false_iff_ne]; omega
          clear HM N hzk P7
          go_wp2_with fail
          go_roundw
          case rel => exact ⟨1, 1, by omega, rfl, rfl, by rw [HN.out]; exact T7.out⟩
          case measure => simp [intOf]
    · obtain rfl : x = 1 := by omega
      clear hx hk
      have hc := T2.out.cells.2
      obtain ⟨m, hm⟩ : ∃ m, m = newer Ms.zero a 0 := ⟨_, rfl⟩
      have T3 : Hid (Lb w wr r g q a b m) := Lib.hid (by rw [hm, ← newerTo1 a b]; exact T2.out)
      have HM := Lib.hid (show ∀ z, newer m b 1 = z → newerTo 2 a b = z from fun z hz => by rw [← hz, hm, newerTo2])
      clear hm T2
      go_wp2_with fail
      refine (KB.out _).mono ?_
      rintro e w3 ⟨rfl, b3⟩
      have T4 := Lib.hid (T3.out.later b3)
      clear b3 T3 KB hc
      have TU := Lib.hid (fun W => turn_any (rdM b) W (rd_wf b))
      have N := Lib.hid (show newer m b 1 = if isM b = true ∧ (rdM b).count % 2 = 1 ∧ m.count < (rdM b).count then rdM b else m from rfl)
      cases h1 : isM b with
      | false =>
        obtain ⟨d1, d2⟩ := dec_no h1
        have HN := Lib.hid (HM.out m (by rw [N.out, h1, if_neg (fun h => by cases h.1)]))
        rw [d1, d2]
        unfold msV msC Ms.zero
        clear d1 d2 h1 HM N TU
        have T5 := Lib.hid (T4.out.later (below_new w3 (.cells #[.int .u64 ((0 : Nat) : Int), .int .u64 ((0 : Nat) : Int), .int .u64 ((0 : Nat) : Int), .int .u64 ((0 : Nat) : Int), .bool false] 40)))
        go_wp2_with fail
        go_roundw
        case rel => exact ⟨2, 2, by omega, rfl, rfl, by rw [HN.out]; exact T5.out⟩
        case measure => simp [intOf]
      | true =>
        obtain ⟨d1, d2⟩ := dec_yes h1
        rw [d1, d2]
        have MD := Lib.hid (show ∀ W, Calls Try.prog 48 #[msV (rdM b)] W _ from fun W => turn_any (rdM b) W (rd_wf b))
        have RW' := Lib.hid (rd_wf b)
        rw [h1] at N
        clear d1 d2 h1 TU
        generalize rdM b = u at *
        have hP := Mb.new u T4.out.res.below
        have T5 := T4.out.later (below_new w3 (.cells (msC u) 40))
        unfold msV at MD ⊢
        have q0 : (∃ z, (u.count % 2 : Nat) = z) := ⟨_, rfl⟩
        obtain ⟨z, hz⟩ := q0
        rw [hz] at N MD
        have HZ := Lib.hid hz
        clear hz
        have P5 := Lib.hid hP
        have T6 := Lib.hid T5
        clear hP T5 T4
        unfold msC at P5 T6 MD ⊢
        go_upto_region 9 with fail
        generalize World.alloc w3 _ = W5 at *
        generalize w3.heap.size = p at *
        obtain ⟨p0, p1, p2, p3, p4⟩ := P5.out.five
        go_wp2_with fail
        refine (MD.out _).mono ?_
        rintro e w6 ⟨rfl, b6⟩
        have P7 := Lib.hid (P5.out.later b6)
        have T7 := Lib.hid (T6.out.later b6)
        clear b6 P5 T6 MD p0 p1 p2 p3 p4
        by_cases hzk : z = 1
        · subst hzk
          obtain ⟨p0, p1, p2, p3, p4⟩ := P7.out.five
          have n0 := T7.out.new.five.1
          by_cases hlt : m.count < u.count
          · have HN := Lib.hid (HM.out u (by rw [N.out, if_pos (by simp [hlt])]))
            have HB := Lib.hid T7.out.new.box
            have TS := Lib.hid (T7.out.set u)
            have e1 : decide ((m.count : Int) < (u.count : Int)) = true := decide_eq_true (by omega)
            clear HM N T7
            go_wp2_with (refine wpList_store_row rfl 40 _ _ rfl q (msC u) rfl rfl 40 (msC m) HB.out info_ms rfl (ms_one _) ?_)
            go_roundw
            case rel => exact ⟨2, 2, by omega, rfl, rfl, by rw [HN.out]; exact TS.out⟩
            case measure => simp [intOf]
          · have HN := Lib.hid (HM.out m (by rw [N.out, if_neg (fun h => hlt h.2.2)]))
            have e1 : decide ((m.count : Int) < (u.count : Int)) = false := decide_eq_false (by omega)
            clear HM N
            go_wp2_with fail
            go_roundw
            case rel => exact ⟨2, 2, by omega, rfl, rfl, by rw [HN.out]; exact T7.out⟩
            case measure => simp [intOf]
        · have HN := Lib.hid (HM.out m (by rw [N.out, if_neg (fun h => hzk h.2.1)]))
          have e1 : ((z : Int) == 1) = false := by rw [beq_eq_false_iff_ne]; omega
          clear HM N hzk P7
          go_wp2_with fail
          go_roundw
          case rel => exact ⟨2, 2, by omega, rfl, rfl, by rw [HN.out]; exact T7.out⟩
          case measure => simp [intOf]
    · obtain rfl : x = 2 := by omega
      clear hx hk KA KB
      obtain ⟨m, hm⟩ : ∃ m, m = newerTo 2 a b := ⟨_, rfl⟩
      have T3 : Hid (Lb w wr r g q a b m) := Lib.hid (by rw [hm]; exact T2.out)
      have l1 := L1.out
      have l2 := L2.out
      rw [← newerTo2, ← hm] at l1 l2
      have MZ := Lib.hid (show m.count = 0 → m = Ms.zero from fun h => by rw [hm] at h ⊢; exact newerTo_zero a b h)
      have A1 := Lib.hid l1
      have A2 := Lib.hid l2
      have RR := Lib.hid (show w.heap.size ≤ r from T3.out.res.own)
      clear hm T2 L1 L2 l1 l2
      have HB := Lib.hid T3.out.res.box
      have HL := Lib.hid T3.out.res.below
      have HO := Lib.hid T3.out.res.own
      obtain ⟨n0, n1, n2, n3, n4⟩ := T3.out.new.five
      clear T3
      by_cases hc : m.count = 0
      · have A3 := Lib.hid (show loadE a b = 120 from by rw [A2.out, if_pos hc])
        have e1 : ((m.count : Int) == 0) = true := by rw [beq_iff_eq]; omega
        have HZ := Lib.hid (MZ.out hc)
        clear hc
        go_wp2_with (refine wpList_store_row rfl 40 _ _ rfl r (msC Ms.zero) rfl rfl 40 (msC Ms.zero) HB.out info_ms rfl (ms_one _) ?_)
        exact bodyPost_ret (v := .tuple #[msV Ms.zero, .int .i64 120]) (results_two Try.results22 _ _ r (msC Ms.zero) 120 rfl rfl (setRow_heap _ _ _ _ _ _ HB.out) Try.underlying40 info_ms) rfl (HP.out Ms.zero 120 _ (by rw [A1.out, HZ.out]) A3.out (below_setRow HL.out HO.out _))
      · have A3 := Lib.hid (show loadE a b = 0 from by rw [A2.out, if_neg hc])
        have e1 : ((m.count : Int) == 0) = false := by rw [beq_eq_false_iff_ne]; omega
        clear hc
        go_wp2_with (refine wpList_store_row rfl 40 _ _ rfl r (msC m) rfl rfl 40 (msC Ms.zero) HB.out info_ms rfl (ms_one _) ?_)
        exact bodyPost_ret (v := .tuple #[msV m, .int .i64 0]) (results_two Try.results22 _ _ r (msC m) 0 rfl rfl (setRow_heap _ _ _ _ _ _ HB.out) Try.underlying40 info_ms) rfl (HP.out m 0 _ A1.out A3.out (below_setRow HL.out HO.out _))

end Go.Proofs.Ytfcibccipkokoaa.Mas
