/-
  Walks: heavy.
  Walks: the document's may, room, same.
  Walks: the document's same.
  Walks: two lists of texts, in the document (Texts of stage 8).
-/
import Derived.Test.YticnbicnefnhbaaZ3
namespace Go.Proofs.Yticnbicnefnhbaa.Page
open Go.RowKit
attribute [local go_sem ↓] Go.wp_at_zero Go.wp_at_succ

/-- what heavy reckons -/
def wt (l : List ByteArray) : Nat := (l.map fun r => 1 + r.size).sum
def heavyB (l : List ByteArray) : Bool := decide (4096 < wt l)
theorem wt_app (l m : List ByteArray) : wt (l ++ m) = wt l + wt m := by simp [wt]
theorem wt_take {l : List ByteArray} {k : Nat} (h : k < l.length) : wt (l.take (k + 1)) = wt (l.take k) + (1 + (nth l k).size) := by
  rw [nth_take h, wt_app]; simp [wt]
theorem wt_take_le (l : List ByteArray) (k : Nat) : wt (l.take k) ≤ wt l := by
  have h := wt_app (l.take k) (l.drop k)
  rw [List.take_append_drop] at h
  omega
theorem used_wt (l : List ByteArray) : used l ≤ 4 * wt l := by
  induction l with
  | nil => simp [used]
  | cons r l ih =>
    rw [used_cons]
    have : wt (r :: l) = 1 + r.size + wt l := by simp [wt]
    omega
theorem light {l : List ByteArray} (h : heavyB l = false) : used l ≤ 16384 ∧ l.length ≤ 4096 := by
  unfold heavyB at h
  have h1 := of_decide_eq_false h
  have h2 := used_wt l
  have h3 := used_len l
  omega

set_option maxRecDepth 100000 in
set_option maxHeartbeats 1000000 in
theorem heavy_any {w : World} {v : Value} (p : Pg) (h : Rows w v p.rows) (hl : p.rows.length ≤ 140737488351232) (hs : ∀ j, j < p.rows.length → (nth p.rows j).size ≤ 140737488351232) :
    Calls Try.prog 20 #[pgV p v] w fun e w' => e = .returned (.bool (heavyB p.rows)) ∧ Below w.heap.size w w' := by
  have hr := h.alloc (.cells (pgC p v) 45)
  have hc := pgC_cell w p v
  have hbl := (Below.refl w.heap.size w).alloc (Nat.le_refl _) (.cells (pgC p v) 45)
  obtain ⟨W, hW⟩ : ∃ W, W = w.alloc (.cells (pgC p v) 45) := ⟨_, rfl⟩
  rw [← hW] at hr hc hbl
  obtain ⟨ad, c, rfl, _⟩ := id h
  have B := Lib.hid hbl
  obtain ⟨l, hll⟩ : ∃ l, l = p.rows := ⟨_, rfl⟩
  rw [← hll] at hr hc hl hs hW
  have H := Lib.hid hr
  have S := Lib.hid hs
  obtain ⟨n, hn⟩ : ∃ n, n = l.length := ⟨_, rfl⟩
  have N := Lib.hid hn
  have hn2 : n ≤ 140737488351232 := by omega
  rw [← hll]
  rw [← hn] at hc ⊢ hW
  have HW := Lib.hid hW
  clear h hs hl hn hr hbl hll hW
  unfold pgV
  go_enter Try.func20, Try.ntmps20
  go_wp2_with fail
  change Code.wp _ _ _ _ (w.alloc (.cells (pgC p (.slice ad n c)) 45))
  rw [← HW.out]
  go_loop [3, 4] (fun x i => ∃ k m : Nat, k ≤ n ∧ m ≤ 140737488400000 ∧ m = wt (l.take k) ∧ x = .int .i64 m ∧ i = .int .i64 k) (fun _ i => n - (intOf i).toNat)
  case atStart => exact ⟨0, 0, by omega, by omega, by simp [wt], by go_num, by go_num⟩
  case round =>
    obtain ⟨k, m, hk, hm, hq, rfl, rfl⟩ := hrel
    by_cases hlt : k < n
    · by_cases hx : m ≤ 4096
      · have hlt2 : k < l.length := by rw [← N.out]; exact hlt
        obtain ⟨b, o, rfl, hb, hc2⟩ := H.out.at (k := k) hlt2
        have t1 := S.out k hlt2
        have t2 := wt_take hlt2
        obtain ⟨s, hs2⟩ : ∃ s, s = nth l k := ⟨_, rfl⟩
        rw [← hs2] at hc2 t1 t2
        have Z := Lib.hid (show m + 1 + s.size = wt (l.take (k + 1)) by omega)
        clear hq t2 hs2 hlt2
        go_wp2_with fail
        go_round
        case rel => exact ⟨k + 1, m + 1 + s.size, by omega, by omega, Z.out, by go_num, by go_num⟩
        case measure => simp [intOf]; omega
      · have e : heavyB l = true := by
          have := wt_take_le l k
          unfold heavyB; rw [decide_eq_true_iff]; omega
        have E := Lib.hid e
        clear hq e
        go_wp2_with fail
        go_ret
        exact ⟨by rw [E.out]; rfl, B.out⟩
    · obtain rfl : k = n := by omega
      have e : heavyB l = decide ((4096 : Int) < (m : Int)) := by
        have e1 : l.take k = l := List.take_of_length_le (by rw [← N.out]; omega)
        rw [e1] at hq
        unfold heavyB; rw [decide_eq_decide]; omega
      have E := Lib.hid e
      clear hq e
      go_wp2_with fail
      all_goals
        go_ret
        refine ⟨?_, B.out⟩
        rw [E.out]
        first | rfl | (congr 2; simp; omega)

end Go.Proofs.Yticnbicnefnhbaa.Page

namespace Go.Proofs.Yticnbicnefnhbaa.Page
open Go.RowKit
attribute [local go_sem ↓] Go.wp_at_zero Go.wp_at_succ

theorem roomR_of (l : List ByteArray) : (if leftR l - 4 < 0 then -1 else leftR l - 4) = roomI l := by
  unfold leftR roomI
  split <;> split <;> omega
theorem mayR_of (p : Pg) : mayP p = (decide (p.kind ≤ 5) && (decide (1 ≤ p.id) && (decide (p.id ≤ 1024) && (decide (p.next ≤ 1024) && decide (0 ≤ leftR p.rows))))) := by
  unfold mayP leftR
  rw [Bool.eq_iff_iff]
  simp only [Bool.and_eq_true, decide_eq_true_eq]
  omega

set_option maxRecDepth 100000 in
set_option maxHeartbeats 1000000 in
theorem rroom_any {w : World} {v : Value} (p : Pg) (h : Rows w v p.rows) (hu : used p.rows ≤ 1000000) : Calls Try.prog 28 #[pgV p v] w fun e w' => e = .returned (.int .i64 (roomI p.rows)) ∧ Below w.heap.size w w' := by
  have L := rleft_any p (h.alloc (.cells (pgC p v) 45)) hu
  have e := roomR_of p.rows
  have hb : -1000000 ≤ leftR p.rows ∧ leftR p.rows ≤ 484 := by unfold leftR; omega
  have E := Lib.hid e
  have B := Lib.hid ((Below.refl w.heap.size w).alloc (Nat.le_refl _) (.cells (pgC p v) 45))
  unfold pgC pgV at L
  have LL := Lib.hid L
  generalize leftR p.rows = x at *
  clear L e h hu
  unfold pgV
  go_enter Try.func28, Try.ntmps28
  go_wp2_with fail
  refine LL.out.mono ?_
  rintro e w' ⟨rfl, b⟩
  have B2 := Lib.hid (B.out.trans (b.mono B.out.size))
  clear b
  go_wp2_with fail
  all_goals
    go_ret
    refine ⟨?_, B2.out⟩
    rw [← E.out]
    first
    | (rw [if_pos (by omega)]; rfl)
    | (rw [if_neg (by omega)]; rfl)

set_option maxRecDepth 100000 in
set_option maxHeartbeats 1000000 in
theorem rmay_any {w : World} {v : Value} (p : Pg) (h : Rows w v p.rows) (hu : used p.rows ≤ 1000000) : Calls Try.prog 29 #[pgV p v] w fun e w' => e = .returned (.bool (mayP p)) ∧ Below w.heap.size w w' := by
  have L := rleft_any p (h.alloc (.cells (pgC p v) 45)) hu
  have e := mayR_of p
  have E := Lib.hid e
  have B := Lib.hid ((Below.refl w.heap.size w).alloc (Nat.le_refl _) (.cells (pgC p v) 45))
  unfold pgC pgV at L
  have LL := Lib.hid L
  generalize leftR p.rows = x at *
  generalize mayP p = y at *
  obtain ⟨kind, level, id, lsn, next, rows⟩ := p
  simp only at *
  clear L e h hu
  unfold pgV
  simp only
  go_enter Try.func29, Try.ntmps29
  go_wp2_with (go_at_call 47; refine LL.out.mono ?_; rintro e w' ⟨rfl, b⟩)
  all_goals
    have hr : ∀ z : Bool, y = z → (Ending.returned (.bool z) : Ending) = .returned (.bool y) := fun z hz => by rw [hz]
    go_ret
    refine ⟨hr _ (by rw [E.out, Bool.eq_iff_iff]; simp only [Bool.and_eq_true, decide_eq_true_eq, Bool.false_eq_true, iff_false]; omega), ?_⟩
    first
    | exact B.out
    | exact B.out.trans (b.mono B.out.size)

end Go.Proofs.Yticnbicnefnhbaa.Page

namespace Go.Proofs.Yticnbicnefnhbaa.Page
open Go.RowKit
attribute [local go_sem ↓] Go.wp_at_zero Go.wp_at_succ

theorem cell_box (w : World) (o : Obj) (p : Pg) (v : Value) : ((w.alloc (.cells (pgC p v) 45)).alloc o).cell? ⟨w.heap.size, 5, none⟩ = some v := by
  have hb := (Below.refl (w.alloc (.cells (pgC p v) 45)).heap.size (w.alloc (.cells (pgC p v) 45))).alloc (Nat.le_refl _) o
  rw [hb.cell (p := ⟨w.heap.size, 5, none⟩) (by simp)]
  exact pgC_cell w p v
theorem cell_box2 (w : World) (o : Obj) (q : Pg) (v : Value) : ((w.alloc o).alloc (.cells (pgC q v) 45)).cell? ⟨w.heap.size + 1, 5, none⟩ = some v := by
  have := pgC_cell (w.alloc o) q v
  rw [show (w.alloc o).heap.size = w.heap.size + 1 by simp] at this
  exact this
theorem toList_data (s : ByteArray) : s.toList = s.data.toList := by
  cases s; rw [ByteArray.toList_mk]
theorem beq_yes (s : ByteArray) : (s.toList == s.toList) = true := by simp
theorem beq_no {s t : ByteArray} (h : ¬ s = t) : (s.toList == t.toList) = false := by
  rw [beq_eq_false_iff_ne]
  intro e
  rw [toList_data, toList_data] at e
  exact h (ByteArray.ext (Array.toList_inj.1 e))
theorem ext_nth {l m : List ByteArray} (hl : l.length = m.length) (h : ∀ j, j < l.length → nth l j = nth m j) : l = m := by
  apply List.ext_getElem hl
  intro i h1 h2
  rw [nth_elem h1, nth_elem h2, h i h1]

set_option maxRecDepth 100000 in
set_option maxHeartbeats 2000000 in
theorem rsame_no {w : World} (a1 a2 : Option Addr) (c1 c2 m1 m2 kind level id lsn next kind2 level2 id2 lsn2 next2 : Nat) (hh : ¬ (kind = kind2 ∧ level = level2 ∧ id = id2 ∧ lsn = lsn2 ∧ next = next2 ∧ m1 = m2)) :
    Calls Try.prog 25 #[.agg #[.int .u8 (kind : Int), .int .u8 (level : Int), .int .u32 (id : Int), .int .u64 (lsn : Int), .int .u32 (next : Int), .slice a1 m1 c1], .agg #[.int .u8 (kind2 : Int), .int .u8 (level2 : Int), .int .u32 (id2 : Int), .int .u64 (lsn2 : Int), .int .u32 (next2 : Int), .slice a2 m2 c2]] w
      fun e w' => e = .returned (.bool false) ∧ Below w.heap.size w w' := by
  by_cases hm : m1 = m2
  · subst hm
    have hm2 : ((m1 : Int) != (m1 : Int)) = false := by simp
    go_enter Try.func25, Try.ntmps25
    go_wp2_with fail
    all_goals first
      | (exfalso; omega)
      | (go_ret; exact ⟨rfl, below2 w _ _⟩)
  · have hm2 : ((m1 : Int) != (m2 : Int)) = true := by simp; omega
    go_enter Try.func25, Try.ntmps25
    go_wp2_with fail
    all_goals (go_ret; exact ⟨rfl, below2 w _ _⟩)

set_option maxRecDepth 100000 in
set_option maxHeartbeats 2000000 in
theorem rsame_yes {w : World} (a1 a2 : Option Addr) (c1 c2 kind level id lsn next : Nat) (l1 l2 : List ByteArray) (h1 : Rows w (.slice a1 l1.length c1) l1) (h2 : Rows w (.slice a2 l2.length c2) l2) (hl : l1.length = l2.length) (n1 : l1.length ≤ 1000000) :
    Calls Try.prog 25 #[.agg #[.int .u8 (kind : Int), .int .u8 (level : Int), .int .u32 (id : Int), .int .u64 (lsn : Int), .int .u32 (next : Int), .slice a1 l1.length c1], .agg #[.int .u8 (kind : Int), .int .u8 (level : Int), .int .u32 (id : Int), .int .u64 (lsn : Int), .int .u32 (next : Int), .slice a2 l2.length c2]] w
      fun e w' => e = .returned (.bool (decide (l1 = l2))) ∧ Below w.heap.size w w' := by
  obtain ⟨m, hm⟩ : ∃ m, m = l1.length := ⟨_, rfl⟩
  have e2 : l2.length = m := by omega
  rw [← hm] at h1 n1
  rw [e2] at h2
  rw [← hm, e2]
  have M := Lib.hid hm
  have M2 := Lib.hid e2
  have k1 := cell_box w (.cells (pgC ⟨kind, level, id, lsn, next, []⟩ (.slice a2 m c2)) 45) ⟨kind, level, id, lsn, next, []⟩ (.slice a1 m c1)
  have k2 := cell_box2 w (.cells (pgC ⟨kind, level, id, lsn, next, []⟩ (.slice a1 m c1)) 45) ⟨kind, level, id, lsn, next, []⟩ (.slice a2 m c2)
  have r1 := (h1.alloc (.cells (pgC ⟨kind, level, id, lsn, next, []⟩ (.slice a1 m c1)) 45)).alloc (.cells (pgC ⟨kind, level, id, lsn, next, []⟩ (.slice a2 m c2)) 45)
  have r2 := (h2.alloc (.cells (pgC ⟨kind, level, id, lsn, next, []⟩ (.slice a1 m c1)) 45)).alloc (.cells (pgC ⟨kind, level, id, lsn, next, []⟩ (.slice a2 m c2)) 45)
  have hB := below2 w (.cells (pgC ⟨kind, level, id, lsn, next, []⟩ (.slice a1 m c1)) 45) (.cells (pgC ⟨kind, level, id, lsn, next, []⟩ (.slice a2 m c2)) 45)
  have hsz : ((w.alloc (.cells (pgC ⟨kind, level, id, lsn, next, []⟩ (.slice a1 m c1)) 45)).alloc (.cells (pgC ⟨kind, level, id, lsn, next, []⟩ (.slice a2 m c2)) 45)).heap.size = w.heap.size + 2 := by simp
  obtain ⟨W, hW⟩ : ∃ W, W = (w.alloc (.cells (pgC ⟨kind, level, id, lsn, next, []⟩ (.slice a1 m c1)) 45)).alloc (.cells (pgC ⟨kind, level, id, lsn, next, []⟩ (.slice a2 m c2)) 45) := ⟨_, rfl⟩
  rw [← hW] at k1 k2 r1 r2 hB hsz
  have hm2 : ((m : Int) != (m : Int)) = false := by simp
  have B := Lib.hid hB
  have SZ := Lib.hid hsz
  have R1 := Lib.hid r1
  have R2 := Lib.hid r2
  have K1 := Lib.hid k1
  have K2 := Lib.hid k2
  have HW := Lib.hid hW
  obtain ⟨g, hg⟩ : ∃ g, g = w.heap.size := ⟨_, rfl⟩
  have G := Lib.hid hg
  clear h1 h2 k1 k2 r1 r2 hB hsz hW hm e2 hl hg
  go_enter Try.func25, Try.ntmps25
  go_wp2_with fail
  clear hm2
  change Code.wp _ _ _ _ ((w.alloc (.cells (pgC ⟨kind, level, id, lsn, next, []⟩ (.slice a1 m c1)) 45)).alloc (.cells (pgC ⟨kind, level, id, lsn, next, []⟩ (.slice a2 m c2)) 45))
  rw [← HW.out]
  go_loopw [5] (fun i wr => ∃ k : Nat, k ≤ m ∧ i = .int .i64 k ∧ Below W.heap.size W wr ∧ ∀ j, j < k → nth l1 j = nth l2 j) (fun i _ => m - (intOf i).toNat)
  case atStart => exact ⟨0, by omega, by go_num, Below.refl _ _, fun j hj => by omega⟩
  case round =>
    obtain ⟨k, hk, rfl, hb, heq⟩ := hrel
    have g1 : wr.cell? ⟨w.heap.size, 5, none⟩ = some (.slice a1 m c1) := (hb.cell (p := ⟨w.heap.size, 5, none⟩) (by rw [SZ.out]; simp)).trans K1.out
    have g2 : wr.cell? ⟨w.heap.size + 1, 5, none⟩ = some (.slice a2 m c2) := (hb.cell (p := ⟨w.heap.size + 1, 5, none⟩) (by rw [SZ.out]; simp)).trans K2.out
    have HB := Lib.hid hb
    have HE := Lib.hid heq
    clear hb heq
    by_cases hlt : k < m
    · have q1 := R1.out.later HB.out
      have q2 := R2.out.later HB.out
      rw [M.out] at q1
      rw [← M2.out] at q2
      obtain ⟨b1, o1, rfl, _, d1⟩ := q1.at (k := k) (by rw [← M.out]; exact hlt)
      obtain ⟨b2, o2, rfl, _, d2⟩ := q2.at (k := k) (by rw [M2.out]; exact hlt)
      clear q1 q2
      obtain ⟨s1, hs1⟩ : ∃ s, s = nth l1 k := ⟨_, rfl⟩
      obtain ⟨s2, hs2⟩ : ∃ s, s = nth l2 k := ⟨_, rfl⟩
      rw [← hs1] at d1
      rw [← hs2] at d2
      have S1 := Lib.hid hs1
      have S2 := Lib.hid hs2
      clear hs1 hs2
      by_cases hs : s1 = s2
      · have e1 : (s1.toList == s2.toList) = true := by rw [hs]; exact beq_yes s2
        have NB := Lib.hid (HB.out.trans ((Below.refl wr.heap.size wr).drew.mono HB.out.size))
        have NE := Lib.hid (show ∀ j, j < k + 1 → nth l1 j = nth l2 j from fun j hj => by
          by_cases e : j = k
          · subst e; rw [← S1.out, ← S2.out, hs]
          · exact HE.out j (by omega))
        clear hs
        go_wp2_with fail
        go_region
        go_wp2_with fail
        go_roundw
        case rel => exact ⟨k + 1, by omega, by go_num, NB.out, NE.out⟩
        case measure => simp [intOf]; omega
      · have e1 : (s1.toList == s2.toList) = false := beq_no hs
        have NB := Lib.hid (HB.out.trans ((Below.refl wr.heap.size wr).drew.mono HB.out.size))
        have NE := Lib.hid (show decide (l1 = l2) = false from decide_eq_false (by rintro rfl; exact hs (S1.out.trans S2.out.symm)))
        clear hs
        go_wp2_with fail
        go_region
        go_wp2_with fail
        go_ret
        exact ⟨by rw [NE.out]; rfl, B.out.trans (NB.out.mono B.out.size)⟩
    · obtain rfl : k = m := by omega
      have NE := Lib.hid (show decide (l1 = l2) = true from decide_eq_true (ext_nth (by rw [M2.out, ← M.out]) (by rw [← M.out]; exact HE.out)))
      go_wp2_with fail
      go_ret
      exact ⟨by rw [NE.out]; rfl, B.out.trans (HB.out.mono B.out.size)⟩

theorem rsame_any {w : World} {v1 v2 : Value} (p q : Pg) (h1 : Rows w v1 p.rows) (h2 : Rows w v2 q.rows) (n1 : p.rows.length ≤ 1000000) :
    Calls Try.prog 25 #[pgV p v1, pgV q v2] w fun e w' => e = .returned (.bool (sameB p q)) ∧ Below w.heap.size w w' := by
  obtain ⟨a1, c1, rfl, _⟩ := id h1
  obtain ⟨a2, c2, rfl, _⟩ := id h2
  obtain ⟨kind, level, id, lsn, next, rows⟩ := p
  obtain ⟨kind2, level2, id2, lsn2, next2, rows2⟩ := q
  simp only at *
  by_cases hh : kind = kind2 ∧ level = level2 ∧ id = id2 ∧ lsn = lsn2 ∧ next = next2 ∧ rows.length = rows2.length
  · obtain ⟨rfl, rfl, rfl, rfl, rfl, hl⟩ := hh
    have e : sameB ⟨kind, level, id, lsn, next, rows⟩ ⟨kind, level, id, lsn, next, rows2⟩ = decide (rows = rows2) := by simp [sameB]
    rw [e]
    exact rsame_yes a1 a2 c1 c2 kind level id lsn next rows rows2 h1 h2 hl n1
  · have e : sameB ⟨kind, level, id, lsn, next, rows⟩ ⟨kind2, level2, id2, lsn2, next2, rows2⟩ = false := by
      unfold sameB
      rw [decide_eq_false_iff_not]
      rintro ⟨rfl, rfl, rfl, rfl, rfl, rfl⟩
      exact hh ⟨rfl, rfl, rfl, rfl, rfl, rfl⟩
    rw [e]
    exact rsame_no a1 a2 c1 c2 rows.length rows2.length kind level id lsn next kind2 level2 id2 lsn2 next2 hh

end Go.Proofs.Yticnbicnefnhbaa.Page

namespace Go.Proofs.Yticnbicnefnhbaa.Op
open Go.RowKit
open Go.Proofs.Yticnbicnefnhbaa.Page (Pg nth ext_nth)
attribute [local go_sem ↓] Go.wp_at_zero Go.wp_at_succ

set_option maxRecDepth 100000 in
set_option maxHeartbeats 2000000 in
theorem rtexts_any {w : World} {v1 v2 : Value} (l1 l2 : List ByteArray) (h1 : Page.Rows w v1 l1) (h2 : Page.Rows w v2 l2) (n1 : l1.length ≤ 1000000) (n2 : l2.length ≤ 1000000) :
    Calls Try.prog 26 #[v1, v2] w fun e w' => e = .returned (.bool (decide (l1 = l2))) ∧ Below w.heap.size w w' := by
  obtain ⟨a1, c1, rfl, _⟩ := id h1
  obtain ⟨a2, c2, rfl, _⟩ := id h2
  have R1 := Lib.hid h1
  have R2 := Lib.hid h2
  clear h1 h2
  by_cases hl : l1.length = l2.length
  · obtain ⟨m, hm⟩ : ∃ m, m = l1.length := ⟨_, rfl⟩
    have e2 : l2.length = m := by omega
    rw [← hm] at R1 n1 ⊢
    rw [e2] at R2 ⊢
    have M := Lib.hid hm
    have M2 := Lib.hid e2
    have hm2 : ((m : Int) != (m : Int)) = false := by simp
    clear hl hm e2 n2
    go_enter Try.func26, Try.ntmps26
    go_wp2_with fail
    clear hm2
    go_loopw [5] (fun i wr => ∃ k : Nat, k ≤ m ∧ i = .int .i64 k ∧ Below w.heap.size w wr ∧ ∀ j, j < k → nth l1 j = nth l2 j) (fun i _ => m - (intOf i).toNat)
    case atStart => exact ⟨0, by omega, by go_num, Below.refl _ _, fun j hj => by omega⟩
    case round =>
      obtain ⟨k, hk, rfl, hb, heq⟩ := hrel
      have HB := Lib.hid hb
      have HE := Lib.hid heq
      clear hb heq
      by_cases hlt : k < m
      · have q1 := R1.out.later HB.out
        have q2 := R2.out.later HB.out
        rw [M.out] at q1
        rw [← M2.out] at q2
        obtain ⟨b1, o1, rfl, _, d1⟩ := q1.at (k := k) (by rw [← M.out]; exact hlt)
        obtain ⟨b2, o2, rfl, _, d2⟩ := q2.at (k := k) (by rw [M2.out]; exact hlt)
        clear q1 q2
        obtain ⟨s1, hs1⟩ : ∃ s, s = nth l1 k := ⟨_, rfl⟩
        obtain ⟨s2, hs2⟩ : ∃ s, s = nth l2 k := ⟨_, rfl⟩
        rw [← hs1] at d1
        rw [← hs2] at d2
        have S1 := Lib.hid hs1
        have S2 := Lib.hid hs2
        clear hs1 hs2
        by_cases hs : s1 = s2
        · have e1 : (s1.toList == s2.toList) = true := by rw [hs]; exact Page.beq_yes s2
          have NB := Lib.hid (HB.out.trans ((Below.refl wr.heap.size wr).drew.mono HB.out.size))
          have NE := Lib.hid (show ∀ j, j < k + 1 → nth l1 j = nth l2 j from fun j hj => by
            by_cases e : j = k
            · subst e; rw [← S1.out, ← S2.out, hs]
            · exact HE.out j (by omega))
          clear hs
          go_wp2_with fail
          go_region
          go_wp2_with fail
          go_roundw
          case rel => exact ⟨k + 1, by omega, by go_num, NB.out, NE.out⟩
          case measure => simp [intOf]; omega
        · have e1 : (s1.toList == s2.toList) = false := Page.beq_no hs
          have NB := Lib.hid (HB.out.trans ((Below.refl wr.heap.size wr).drew.mono HB.out.size))
          have NE := Lib.hid (show decide (l1 = l2) = false from decide_eq_false (by rintro rfl; exact hs (S1.out.trans S2.out.symm)))
          clear hs
          go_wp2_with fail
          go_region
          go_wp2_with fail
          go_ret
          exact ⟨by rw [NE.out]; rfl, NB.out⟩
      · obtain rfl : k = m := by omega
        have NE := Lib.hid (show decide (l1 = l2) = true from decide_eq_true (ext_nth (by rw [M2.out, ← M.out]) (by rw [← M.out]; exact HE.out)))
        go_wp2_with fail
        go_ret
        exact ⟨by rw [NE.out]; rfl, HB.out⟩
  · have NE := Lib.hid (show decide (l1 = l2) = false from decide_eq_false (by rintro rfl; exact hl rfl))
    have hm2 : ((l1.length : Int) != (l2.length : Int)) = true := by simp; omega
    clear hl
    generalize l1.length = m1 at *
    generalize l2.length = m2 at *
    go_enter Try.func26, Try.ntmps26
    go_wp2_with fail
    go_ret
    exact ⟨by rw [NE.out]; rfl, Below.refl _ _⟩


end Go.Proofs.Yticnbicnefnhbaa.Op
