/-
  Walks: are two ops the same (the document).
  Walks: what a kind has alone (the document).
  Walks: may an op be (the document).
-/
import Derived.Deep.DeepCutAuto
import Derived.RegionTactic
import Derived.Deep.RegionHeld3
import Derived.Test.YtfcibccipkokoaaZ4
import Derived.Test.YtfcibccipkokoaaZ3
namespace Go.Proofs.Ytfcibccipkokoaa.Op
open Go.RowKit
open Go.Proofs.Ytfcibccipkokoaa.Seq (strS Is)
open Go.Proofs.Ytfcibccipkokoaa.Strs (nth ext_nth beq_yes beq_no)
attribute [local go_sem ↓] Go.wp_at_zero Go.wp_at_succ

theorem below_new (w : World) (o : Obj) : Below w.heap.size w (w.alloc o) := (Below.refl _ _).alloc (Nat.le_refl _) o
/-- what differs, ahead of the rows themselves -/
def diff (a b : O) : Bool := decide (a.kind ≠ b.kind) || (decide (a.page ≠ b.page) || (decide (a.at' ≠ b.at') || (decide (a.off ≠ b.off) || (decide (a.text ≠ b.text) || (decide (a.pkind ≠ b.pkind) || (decide (a.level ≠ b.level) || (decide (a.next ≠ b.next) || decide (a.rows.length ≠ b.rows.length))))))))
theorem diff_no {a b : O} (h : diff a b = false) : a.kind = b.kind ∧ a.page = b.page ∧ a.at' = b.at' ∧ a.off = b.off ∧ a.text = b.text ∧ a.pkind = b.pkind ∧ a.level = b.level ∧ a.next = b.next ∧ a.rows.length = b.rows.length := by
  simpa [diff] using h
theorem diff_yes {a b : O} (h : diff a b = true) : a ≠ b := by
  rintro rfl
  simp [diff] at h
theorem same_of {a b : O} (h : diff a b = false) (hr : a.rows = b.rows) : a = b := by
  obtain ⟨h1, h2, h3, h4, h5, h6, h7, h8, _⟩ := diff_no h
  cases a; cases b
  simp_all
theorem num_ne {x y : Nat} : ((x : Int) != (y : Int)) = decide (x ≠ y) := by
  rw [Bool.eq_iff_iff]
  simp
  omega
theorem int_ne {x y : Int} : (x != y) = decide (x ≠ y) := by
  rw [Bool.eq_iff_iff]
  simp
theorem str_eq {x y : ByteArray} : (x.toList == y.toList) = !decide (x ≠ y) := by
  by_cases h : x = y
  · subst h
    simp
  · rw [decide_eq_true h, beq_no h]
    rfl
/-- two boxes -/
structure B2 (W0 w : World) (g q : Nat) (a : O) (u : Value) (b : O) (v : Value) : Prop where
  a : Bx W0 w g a u
  b : Bx W0 w q b v
theorem B2.later {W0 w w' : World} {g q : Nat} {a b : O} {u v : Value} (h : B2 W0 w g q a u b v) (t : Below w.heap.size w w') : B2 W0 w' g q a u b v := ⟨h.a.later t, h.b.later t⟩
theorem B2.start (w : World) (a b : O) (u v : Value) : B2 w ((w.alloc (.cells (oC a u) 36)).alloc (.cells (oC b v) 36)) w.heap.size (w.heap.size + 1) a u b v := by
  have h1 := (Bx.start w a u).later (below_new (w.alloc (.cells (oC a u) 36)) (.cells (oC b v) 36))
  refine ⟨h1, ⟨?_, h1.below⟩⟩
  have := heap_alloc_new (w.alloc (.cells (oC a u) 36)) (.cells (oC b v) 36)
  simpa using this

theorem nine (d0 d1 d2 d3 d4 d5 d6 d7 : Bool) : d0 = true ∨ (d0 = false ∧ d1 = true) ∨ (d0 = false ∧ d1 = false ∧ d2 = true) ∨ (d0 = false ∧ d1 = false ∧ d2 = false ∧ d3 = true) ∨ (d0 = false ∧ d1 = false ∧ d2 = false ∧ d3 = false ∧ d4 = true) ∨ (d0 = false ∧ d1 = false ∧ d2 = false ∧ d3 = false ∧ d4 = false ∧ d5 = true) ∨ (d0 = false ∧ d1 = false ∧ d2 = false ∧ d3 = false ∧ d4 = false ∧ d5 = false ∧ d6 = true) ∨ (d0 = false ∧ d1 = false ∧ d2 = false ∧ d3 = false ∧ d4 = false ∧ d5 = false ∧ d6 = false ∧ d7 = true) ∨ (d0 = false ∧ d1 = false ∧ d2 = false ∧ d3 = false ∧ d4 = false ∧ d5 = false ∧ d6 = false ∧ d7 = false) := by
  cases d0 <;> cases d1 <;> cases d2 <;> cases d3 <;> cases d4 <;> cases d5 <;> cases d6 <;> cases d7 <;> simp
set_option maxRecDepth 100000 in
set_option maxHeartbeats 2000000 in
theorem rsame_any {w : World} {a b : O} {u v : Value} (ha : In w a u) (hb : In w b v) :
    Calls Try.prog 34 #[oV a u, oV b v] w fun e w' => e = .returned (.bool (decide (a = b))) ∧ Below w.heap.size w w' := by
  have T0 := Lib.hid (B2.start w a b u v)
  have RA := Lib.hid ha.rows
  have RB := Lib.hid hb.rows
  obtain ⟨ad1, c1, rfl⟩ := ha.rows.shape
  obtain ⟨ad2, c2, rfl⟩ := hb.rows.shape
  have DI := Lib.hid (fun h => diff_yes (a := a) (b := b) h)
  have DN := Lib.hid (fun h => same_of (a := a) (b := b) h)
  have DL := Lib.hid (fun h => (diff_no (a := a) (b := b) h).2.2.2.2.2.2.2.2)
  obtain ⟨⟨a0, a1, a2, a3, a4, a5, a6, a7, a8⟩, ⟨b0, b1, b2, b3, b4, b5, b6, b7, b8⟩⟩ := And.intro T0.out.a.nine T0.out.b.nine
  have W : Hid ((diff a b = true ∧ ∃ i, i < 9 ∧ True) ∨ diff a b = false) := Lib.hid (by cases diff a b <;> simp; exact ⟨0, by omega⟩)
  have n0 := num_ne (x := a.kind) (y := b.kind)
  have n1 := num_ne (x := a.page) (y := b.page)
  have n2 := int_ne (x := a.at') (y := b.at')
  have n3 := int_ne (x := a.off) (y := b.off)
  have n4 := str_eq (x := a.text) (y := b.text)
  have n5 := num_ne (x := a.pkind) (y := b.pkind)
  have n6 := num_ne (x := a.level) (y := b.level)
  have n7 := num_ne (x := a.next) (y := b.next)
  have n8 := num_ne (x := a.rows.length) (y := b.rows.length)
  have DF := Lib.hid (show diff a b = (decide (a.kind ≠ b.kind) || (decide (a.page ≠ b.page) || (decide (a.at' ≠ b.at') || (decide (a.off ≠ b.off) || (decide (a.text ≠ b.text) || (decide (a.pkind ≠ b.pkind) || (decide (a.level ≠ b.level) || (decide (a.next ≠ b.next) || decide (a.rows.length ≠ b.rows.length))))))))) from rfl)
  generalize decide (a.kind ≠ b.kind) = d0 at *
  generalize decide (a.page ≠ b.page) = d1 at *
  generalize decide (a.at' ≠ b.at') = d2 at *
  generalize decide (a.off ≠ b.off) = d3 at *
  generalize decide (a.text ≠ b.text) = d4 at *
  generalize decide (a.pkind ≠ b.pkind) = d5 at *
  generalize decide (a.level ≠ b.level) = d6 at *
  generalize decide (a.next ≠ b.next) = d7 at *
  generalize decide (a.rows.length ≠ b.rows.length) = d8 at *
  generalize diff a b = D at *
  have LN := Lib.hid ha.len
  clear W ha hb
  unfold oV oC at *
  go_enter Try.func34, Try.ntmps34
  go_upto_region 1 with fail
  go_cut [68] (fun c wx => c = .bool D ∧ B2 w wx w.heap.size (w.heap.size + 1) a (.slice ad1 a.rows.length c1) b (.slice ad2 b.rows.length c2))
  case first =>
    clear DI DN DL RA RB
    rcases nine d0 d1 d2 d3 d4 d5 d6 d7 with rfl | ⟨rfl, rfl⟩ | ⟨rfl, rfl, rfl⟩ | ⟨rfl, rfl, rfl, rfl⟩ | ⟨rfl, rfl, rfl, rfl, rfl⟩ | ⟨rfl, rfl, rfl, rfl, rfl, rfl⟩ | ⟨rfl, rfl, rfl, rfl, rfl, rfl, rfl⟩ | ⟨rfl, rfl, rfl, rfl, rfl, rfl, rfl, rfl⟩ | ⟨rfl, rfl, rfl, rfl, rfl, rfl, rfl, rfl⟩
    rotate_right
    cases d8
    all_goals
      have E := Lib.hid DF.out
      clear DF
      try simp only [Bool.not_true, Bool.not_false] at n4
      go_wp2_with fail
      go_meet
      exact ⟨(by rw [E.out]; try rfl), T0.out⟩
  case rest =>
    obtain ⟨rfl, hb⟩ := hcut
    have T1 := Lib.hid hb
    clear T0 hb a0 a1 a2 a3 a4 a5 a6 a7 a8 b0 b1 b2 b3 b4 b5 b6 b7 b8 n0 n1 n2 n3 n4 n5 n6 n7 n8 DF
    cases D with
    | true =>
      have NE := Lib.hid (show decide (a = b) = false from decide_eq_false (DI.out rfl))
      clear DI DN DL RA RB
      go_wp2_with fail
      go_ret
      exact ⟨by rw [NE.out]; rfl, T1.out.a.below⟩
    | false =>
      have EQ := Lib.hid (show a.rows = b.rows → decide (a = b) = true from fun h => decide_eq_true (DN.out rfl h))
      have NQ := Lib.hid (show a.rows ≠ b.rows → decide (a = b) = false from fun h => decide_eq_false (fun e => h (by rw [e])))
      obtain ⟨m, hm⟩ : ∃ m, m = a.rows.length := ⟨_, rfl⟩
      have hm2 : b.rows.length = m := by rw [hm]; exact (DL.out rfl).symm
      have ml : m ≤ 140737488351232 := by rw [hm]; exact LN.out
      have M := Lib.hid hm
      have M2 := Lib.hid hm2
      rw [← hm] at T1 RA
      rw [hm2] at T1 RB
      clear DI DN DL hm hm2
      go_wp2_with fail
      go_loopw [5] (fun i wr => ∃ k : Nat, k ≤ m ∧ i = .int .i64 k ∧ B2 w wr w.heap.size (w.heap.size + 1) a (.slice ad1 m c1) b (.slice ad2 m c2) ∧ ∀ j (h1 : j < a.rows.length) (h2 : j < b.rows.length), j < k → a.rows[j] = b.rows[j]) (fun i _ => m - (intOf i).toNat)
      case atStart => exact ⟨0, by omega, by go_num, T1.out, fun j _ _ hj => by omega⟩
      case round =>
        obtain ⟨k, hk, rfl, hb, heq⟩ := hrel
        have T2 := Lib.hid hb
        have HE := Lib.hid heq
        clear hb heq T1
        obtain ⟨⟨_, _, _, _, _, a5, _⟩, ⟨_, _, _, _, _, b5, _⟩⟩ := And.intro T2.out.a.nine T2.out.b.nine
        by_cases hlt : k < m
        · have q1 := RA.out.later T2.out.a.below
          have q2 := RB.out.later T2.out.a.below
          have l1 : k < a.rows.length := by rw [← M.out]; exact hlt
          have l2 : k < b.rows.length := by rw [M2.out]; exact hlt
          obtain ⟨x1, o1, rfl, _, d1⟩ := Seq.str_at q1 l1
          obtain ⟨x2, o2, rfl, _, d2⟩ := Seq.str_at q2 l2
          clear q1 q2
          obtain ⟨s1, hs1⟩ : ∃ s, s = a.rows[k] := ⟨_, rfl⟩
          obtain ⟨s2, hs2⟩ : ∃ s, s = b.rows[k] := ⟨_, rfl⟩
          rw [← hs1] at d1
          rw [← hs2] at d2
          have S1 := Lib.hid hs1
          have S2 := Lib.hid hs2
          have T3 := Lib.hid (T2.out.later (Below.refl wr.heap.size wr).drew)
          clear hs1 hs2
          by_cases hs : s1 = s2
          · have e1 : (s1.toList == s2.toList) = true := by rw [hs]; exact beq_yes s2
            have NE := Lib.hid (show ∀ j (h1 : j < a.rows.length) (h2 : j < b.rows.length), j < k + 1 → a.rows[j] = b.rows[j] from fun j h1 h2 hj => by
              by_cases e : j = k
              · subst e; rw [← S1.out, ← S2.out, hs]
              · exact HE.out j h1 h2 (by omega))
            clear hs
            go_wp2_with fail
            go_region
            go_wp2_with fail
            go_roundw
            case rel => exact ⟨k + 1, by omega, by go_num, T3.out, NE.out⟩
            case measure => simp [intOf]; omega
          · have e1 : (s1.toList == s2.toList) = false := beq_no hs
            have NE := Lib.hid (NQ.out (fun h => hs (by rw [S1.out, S2.out]; simp only [h])))
            clear hs
            go_wp2_with fail
            go_region
            go_wp2_with fail
            go_ret
            exact ⟨by rw [NE.out]; rfl, T3.out.a.below⟩
        · obtain rfl : k = m := by omega
          have NE := Lib.hid (EQ.out (List.ext_getElem (by rw [M2.out, ← M.out]) fun j h1 h2 => HE.out j h1 h2 (by rw [M.out]; exact h1)))
          go_wp2_with fail
          go_ret
          exact ⟨by rw [NE.out]; rfl, T2.out.a.below⟩

end Go.Proofs.Ytfcibccipkokoaa.Op

namespace Go.Proofs.Ytfcibccipkokoaa.Op
open Go.RowKit
open Go.Proofs.Ytfcibccipkokoaa.Seq (strS Is)
attribute [local go_sem ↓] Go.wp_at_zero Go.wp_at_succ

abbrev nilV : Value := .slice none 0 0
theorem results_one {fn : Func} {p : Tmp} {T : TypeId} {f : Array Field} (h : fn.results = #[.cell p T]) (tmps : Array Value) (w : World) (g : Nat) (cs : Array Value) (hp : tmps.getD p undef = .pointer (some ⟨g, 0, none⟩)) (hg : w.heap[g]? = some (.cells cs T (0, 0)))
    (hu : Try.prog.underlying T = some (.struct f)) (hi : (Try.prog.info? T).map (·.size) = some cs.size) : (results fn tmps).run Try.prog w = .ok (.agg cs) w := by
  have hp' : tmps[p]?.getD undef = .pointer (some ⟨g, 0, none⟩) := by simpa using hp
  simp [results, h, hp', asAddr, run_loadVar_row w g T T cs (0, 0) _ hg hu rfl hi]
theorem info_op : (Try.prog.info? 36).map (·.size) = some 9 := by kernel_rfl
theorem op_one (o : O) {u : Value} (h : u.oneCell' = true) : (oC o u).all (·.oneCell') = true := Array.all_eq_true_iff_forall_mem.2 (by
  intro v hv
  simp [oC] at hv
  rcases hv with rfl | rfl | rfl | rfl | rfl | rfl | rfl | rfl | rfl <;> first | rfl | assumption)
theorem below_setRow {W0 w : World} (h : Below W0.heap.size W0 w) {g : Nat} (hg : W0.heap.size ≤ g) (cs : Array Value) : Below W0.heap.size W0 (w.setRow g cs) :=
  ⟨h.os, h.tape, h.output, by have := h.size; simpa [World.setRow] using this, fun b hb => by rw [setRow_other _ _ _ _ (by omega)]; exact h.block b hb⟩
/-- an op's box, the result's, and that of an op which is being made -/
structure R3 (W0 w : World) (g h n : Nat) (o : O) (u : Value) (q : O) (v : Value) : Prop where
  a : Bx W0 w g o u
  res : w.heap[h]? = some (.cells (oC O.zero nilV) 36 (0, 0))
  x : w.heap[n]? = some (.cells (oC q v) 36 (0, 0))
  hn : h ≠ n
  gn : g ≠ n
  hge : W0.heap.size ≤ h
  nge : W0.heap.size ≤ n
theorem R3.part {W0 w : World} {g h n : Nat} {o q q' : O} {u v v' : Value} (s : R3 W0 w g h n o u q v) (j : Nat) (z : Value) (e : (oC q v).setIfInBounds j z = oC q' v') : R3 W0 (w.setCell ⟨n, j, none⟩ z) g h n o u q' v' :=
  ⟨⟨(heap_setCell_other _ _ _ _ (show g ≠ n from s.gn)).trans s.a.box, s.a.below.setCell s.nge _⟩, (heap_setCell_other _ _ _ _ (show h ≠ n from s.hn)).trans s.res, by rw [heap_setCell_same w n j _ _ _ s.x, e], s.hn, s.gn, s.hge, s.nge⟩
theorem R3.start (w : World) (o q : O) (u v : Value) : R3 w (((w.alloc (.cells (oC o u) 36)).alloc (.cells (oC O.zero nilV) 36)).alloc (.cells (oC q v) 36)) w.heap.size (w.heap.size + 1) (w.heap.size + 2) o u q v := by
  have t1 := Bx.start w o u
  have z1 : (w.alloc (.cells (oC o u) 36)).heap.size = w.heap.size + 1 := by simp
  have b1 := below_new (w.alloc (.cells (oC o u) 36)) (.cells (oC O.zero nilV) 36)
  have n1 := heap_alloc_new (w.alloc (.cells (oC o u) 36)) (.cells (oC O.zero nilV) 36)
  rw [z1] at n1
  have z2 : ((w.alloc (.cells (oC o u) 36)).alloc (.cells (oC O.zero nilV) 36)).heap.size = w.heap.size + 2 := by simp
  have b2 := below_new ((w.alloc (.cells (oC o u) 36)).alloc (.cells (oC O.zero nilV) 36)) (.cells (oC q v) 36)
  have n2 := heap_alloc_new ((w.alloc (.cells (oC o u) 36)).alloc (.cells (oC O.zero nilV) 36)) (.cells (oC q v) 36)
  rw [z2] at n2
  exact ⟨(t1.later b1).later b2, (b2.block _ (by rw [z2]; omega)).trans n1, n2, by omega, by omega, by omega, by omega⟩
theorem R3.nine {W0 w : World} {g h n : Nat} {o q : O} {u v : Value} (s : R3 W0 w g h n o u q v) :
    w.cell? ⟨n, 0, none⟩ = some (.int .u8 (q.kind : Int)) ∧ w.cell? ⟨n, 1, none⟩ = some (.int .u32 (q.page : Int)) ∧ w.cell? ⟨n, 2, none⟩ = some (.int .i64 q.at') ∧ w.cell? ⟨n, 3, none⟩ = some (.int .i64 q.off) ∧ w.cell? ⟨n, 4, none⟩ = some (.string q.text) ∧ w.cell? ⟨n, 5, none⟩ = some v ∧ w.cell? ⟨n, 6, none⟩ = some (.int .u8 (q.pkind : Int)) ∧ w.cell? ⟨n, 7, none⟩ = some (.int .u8 (q.level : Int)) ∧ w.cell? ⟨n, 8, none⟩ = some (.int .u32 (q.next : Int)) := by
  refine ⟨?_, ?_, ?_, ?_, ?_, ?_, ?_, ?_, ?_⟩ <;> (rw [cell_of_row _ _ _ _ _ _ s.x]; rfl)
theorem R3.free {W0 w : World} {g h n : Nat} {o q : O} {u v : Value} (s : R3 W0 w g h n o u q v) (j : Nat) : w.frozen? ⟨n, j, none⟩ = false := frozen_of_row _ _ _ _ _ s.x

/-- what a kind has alone, with its rows -/
def onlyV (o : O) (u : Value) : Value := if o.kind = 6 then u else nilV
theorem only_in {w : World} {o : O} {u : Value} (h : In w o u) : In w (only o) (onlyV o u) := by
  have z8 : 0 < 256 := by decide
  have z32 : 0 < 4294967296 := by decide
  have zi : -9223372036854775808 ≤ (0 : Int) ∧ (0 : Int) ≤ 9223372036854775807 := by decide
  have zl : ([] : List ByteArray).length ≤ 140737488351232 := by decide
  have hz : (⟨#[]⟩ : ByteArray).size ≤ 140737488351232 := by decide
  have hr : ∀ r ∈ ([] : List ByteArray), r.size ≤ 140737488351232 := fun r hr => by cases hr
  unfold only onlyV
  by_cases e1 : o.kind = 1
  · rw [if_pos e1, if_neg (by omega)]
    exact ⟨⟨h.wf.kind, h.wf.page, h.wf.pkind, h.wf.level, h.wf.next⟩, zi, zi, hz, Is.nil w, zl, hr⟩
  rw [if_neg e1]
  by_cases e2 : o.kind = 2 ∨ o.kind = 3
  · rw [if_pos e2, if_neg (by omega)]
    exact ⟨⟨h.wf.kind, h.wf.page, z8, z8, z32⟩, h.a, zi, h.text, Is.nil w, zl, hr⟩
  rw [if_neg e2]
  by_cases e3 : o.kind = 4 ∨ o.kind = 5
  · rw [if_pos e3, if_neg (by omega)]
    exact ⟨⟨h.wf.kind, h.wf.page, z8, z8, z32⟩, h.a, zi, hz, Is.nil w, zl, hr⟩
  rw [if_neg e3]
  by_cases e4 : o.kind = 6
  · rw [if_pos e4, if_pos e4]
    exact ⟨⟨h.wf.kind, h.wf.page, z8, z8, z32⟩, zi, zi, hz, h.rows, h.len, h.each⟩
  rw [if_neg e4, if_neg e4]
  by_cases e5 : o.kind = 7
  · rw [if_pos e5]
    exact ⟨⟨h.wf.kind, h.wf.page, z8, z8, h.wf.next⟩, zi, zi, hz, Is.nil w, zl, hr⟩
  rw [if_neg e5]
  by_cases e6 : o.kind = 8
  · rw [if_pos e6]
    exact ⟨⟨h.wf.kind, h.wf.page, z8, z8, z32⟩, h.a, h.f, h.text, Is.nil w, zl, hr⟩
  rw [if_neg e6]
  exact ⟨⟨h.wf.kind, h.wf.page, z8, z8, z32⟩, zi, zi, hz, Is.nil w, zl, hr⟩

end Go.Proofs.Ytfcibccipkokoaa.Op

namespace Go.Proofs.Ytfcibccipkokoaa.Op
open Go.RowKit
open Go.Proofs.Ytfcibccipkokoaa.Seq (strS Is)
attribute [local go_sem ↓] Go.wp_at_zero Go.wp_at_succ

theorem below_drewN (w : World) (n : Nat) : Below w.heap.size w (w.drewN n) := ⟨rfl, rfl, rfl, Nat.le_refl _, fun _ _ => rfl⟩
theorem may_no {o : O} (h : ¬ May o) : decide (May o) = false := decide_eq_false h
theorem total_app (l m : List ByteArray) : total (l ++ m) = total l + total m := by simp [total]
theorem total_take {l : List ByteArray} {k : Nat} (h : k < l.length) : total (l.take (k + 1)) = total (l.take k) + l[k].size := by
  rw [List.take_succ_eq_append_getElem h, total_app, total_cons]; rfl
theorem total_take_le (l : List ByteArray) (k : Nat) : total (l.take k) ≤ total l := by
  have := total_app (l.take k) (l.drop k)
  rw [List.take_append_drop] at this
  omega
theorem may_same {o : O} (h1 : 1 ≤ o.kind ∧ o.kind ≤ 8 ∧ 1 ≤ o.page ∧ o.page ≤ 1024 ∧ o.next ≤ 1024 ∧ o.pkind ≤ 5) (h2 : 0 ≤ o.at' ∧ o.at' ≤ 488 ∧ 0 ≤ o.off ∧ o.off ≤ 488 ∧ o.rows.length ≤ 488) (h3 : o.text.size + total o.rows ≤ 488) : decide (May o) = decide (o = only o) := by
  by_cases e : o = only o
  · rw [decide_eq_true e]
    exact decide_eq_true ⟨h1.1, h1.2.1, h1.2.2.1, h1.2.2.2.1, h1.2.2.2.2.1, h1.2.2.2.2.2, h2.1, h2.2.1, h2.2.2.1, h2.2.2.2.1, h2.2.2.2.2, h3, e.symm⟩
  · rw [decide_eq_false e]
    exact decide_eq_false fun h => e h.on.symm

end Go.Proofs.Ytfcibccipkokoaa.Op
