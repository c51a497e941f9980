/-
  Walks: what rows are split into, in the code.
  Walks: Split, in the code.
-/
import Derived.Test.YtbdbnpcbbebelaaDoorZ22
namespace Go.Proofs.YtbdbnpcbbebelaaDoor.Node
open Go.RowKit
open Go.Proofs.YtbdbnpcbbebelaaDoor.Page (Pg nth used pgV pgC CapOk zeroP info_page results_page zero_one rows_head rows_tail Parts joinL NilOk)
open Go.Proofs.YtbdbnpcbbebelaaDoor.Key (between cmpOf)
attribute [local go_sem ↓] Go.wp_at_zero Go.wp_at_succ

set_option maxRecDepth 100000 in
set_option maxHeartbeats 2000000 in
theorem sep_any {W0 w : World} {v u : Value} {L : List ByteArray} (p : Pg) (n : Nat) (h : Page.Rows w v p.rows) (t : Slot.Tx W0 w u L) (hk : p.kind = 1 ∨ p.kind = 2) (h1 : 1 ≤ n) (hn : n < L.length) (hl : L.length ≤ 1000000) (hz : ∀ j, j < L.length → (nth L j).size ≤ 1000000) :
    Calls Tryd.prog 52 #[pgV p v, u, .int .i64 (n : Int)] w fun e w' => e = .returned (.string (if p.kind = 1 then between (nth L (n - 1)) (nth L n) else nth L n)) ∧ Below w.heap.size w w' := by
  have T0 := Lib.hid (Pb.start h)
  obtain ⟨ad, c, rfl, _⟩ := id h
  obtain ⟨adu, capu, rfl⟩ := t.shape
  obtain ⟨m, rfl⟩ : ∃ m, n = m + 1 := ⟨n - 1, by omega⟩
  obtain ⟨g, rfl, c1⟩ := t.at (k := m) (by omega)
  obtain ⟨g', e, c2⟩ := t.at (k := m + 1) hn
  cases e
  have z1 := hz m (by omega)
  have z2 := hz (m + 1) hn
  change w.cell? ⟨g, m, none⟩ = some (.string (nth L m)) at c1
  change w.cell? ⟨g, m + 1, none⟩ = some (.string (nth L (m + 1))) at c2
  rw [show m + 1 - 1 = m from rfl]
  have hgl : g < w.heap.size := t.lt g rfl
  clear h t hz h1
  generalize nth L m = sa at *
  generalize nth L (m + 1) = sb at *
  generalize p.rows.length = n' at *
  generalize L.length = l at *
  have e1 : ((m + 1 : Nat) : Int) = (m : Int) + 1 := by omega
  rw [e1]
  clear e1
  have KB := Lib.hid (fun W => Key.between_any sa sb W (by unfold maxLen; omega) (by omega))
  obtain ⟨a0, a1, a2, a3, a4, a5⟩ := T0.out.six
  unfold pgV pgC at *
  rcases hk with hk | hk
  · rw [if_pos hk]
    have e2 : ((p.kind : Int) == 2) = false := by simp; omega
    clear hk
    go_enter Tryd.func52, Tryd.ntmps52
    go_upto_region 3 with fail
    have B0 := Lib.hid (T0.out.below.drew)
    have C1 := Lib.hid (show (World.drew (w.alloc (.cells #[.int .u8 (p.kind : Int), .int .u8 (p.level : Int), .int .u32 (p.id : Int), .int .u64 (p.lsn : Int), .int .u32 (p.next : Int), .slice ad n' c] 26))).cell? ⟨g, m, none⟩ = some (.string sa) from (World.cell?_of_block (T0.out.below.block g hgl)).trans c1)
    have C2 := Lib.hid (show (World.drew (w.alloc (.cells #[.int .u8 (p.kind : Int), .int .u8 (p.level : Int), .int .u32 (p.id : Int), .int .u64 (p.lsn : Int), .int .u32 (p.next : Int), .slice ad n' c] 26))).cell? ⟨g, m + 1, none⟩ = some (.string sb) from (World.cell?_of_block (T0.out.below.block g hgl)).trans c2)
    have GL := Lib.hid (show g < (w.alloc (.cells #[.int .u8 (p.kind : Int), .int .u8 (p.level : Int), .int .u32 (p.id : Int), .int .u64 (p.lsn : Int), .int .u32 (p.next : Int), .slice ad n' c] 26)).heap.size from Nat.lt_of_lt_of_le hgl T0.out.below.size)
    generalize w.alloc _ = W1 at *
    have q1 : IntKind.i64.wrap (m : Int) = (m : Int) := IntWalk.i64_in _ (by omega)
    have q2 : (0 : Int) ≤ (m : Int) + 1 := by omega
    have q3 : ((m : Int) + 1).toNat = m + 1 := by omega
    have q4 : (m : Int) < (l : Int) := by omega
    have q5 : (m : Int) + 1 < (l : Int) := by omega
    clear a0 a1 a2 a3 a4 a5 c1 c2 e2
    go_region_held3 (fun w' => w'.cell? ⟨g, m, none⟩ = some (.string sa) ∧ w'.cell? ⟨g, m + 1, none⟩ = some (.string sb)) (first | exact ⟨C1.out, C2.out⟩ | exact ⟨d1, d2⟩)
      (first | (go_at_call 70; refine (KB.out _).mono ?_; rintro e w2 ⟨rfl, b2⟩; have d1 := (World.cell?_of_block (b2.block g GL.out)).trans C1.out; have d2 := (World.cell?_of_block (b2.block g GL.out)).trans C2.out))
    have B2 := Lib.hid (B0.out.trans (b2.mono B0.out.size))
    clear q1 q2 q3 q4 q5 d1 d2 b2
    go_wp2_with fail
    go_ret
    exact ⟨rfl, B2.out⟩
  · rw [if_neg (by omega)]
    have e2 : ((p.kind : Int) == 2) = true := by simp; omega
    clear hk KB
    go_enter Tryd.func52, Tryd.ntmps52
    go_wp2_with fail
    go_ret
    exact ⟨rfl, T0.out.below⟩

end Go.Proofs.YtbdbnpcbbebelaaDoor.Node

namespace Go.Proofs.YtbdbnpcbbebelaaDoor.Node
open Go.RowKit
open Go.Proofs.YtbdbnpcbbebelaaDoor.Page (Pg nth used pgV pgC CapOk zeroP info_page results_page zero_one rows_head rows_tail Parts joinL NilOk)
open Go.Proofs.YtbdbnpcbbebelaaDoor.Key (between cmpOf)
attribute [local go_sem ↓] Go.wp_at_zero Go.wp_at_succ

theorem may_rows {p : Pg} (h : Page.mayP p = true) (r : List ByteArray) : Page.mayP { p with rows := r } = decide (used r ≤ 484) := by
  unfold Page.mayP at h ⊢
  obtain ⟨h1, h2, h3, h4, _⟩ := of_decide_eq_true h
  rw [decide_eq_decide]
  exact ⟨fun x => x.2.2.2.2, fun x => ⟨h1, h2, h3, h4, x⟩⟩
theorem put_node {p : Pg} {x : Int} {t : ByteArray} {is : Bool} (h : putE p x t is = 0) : nodeB p = true ∧ atB p x is = true ∧ keysB (putQ p x.toNat t is) = true ∧ putR p x t is = putQ p x.toNat t is := by
  have e := h
  unfold putE at h
  cases hk : nodeB p with
  | false => rw [hk] at h; simp at h
  | true =>
    rw [hk, if_pos rfl] at h
    cases ha : atB p x is with
    | false => rw [ha] at h; simp at h
    | true =>
      rw [ha, if_pos rfl] at h
      cases hq : keysB (putQ p x.toNat t is) with
      | false => rw [hq] at h; simp at h
      | true => exact ⟨rfl, rfl, rfl, if_pos e⟩
theorem put_facts {p : Pg} {x : Int} {t : ByteArray} {is : Bool} (hu : used p.rows ≤ 900000) (ht : t.size ≤ 90000) (h : putE p x t is = 0) :
    (∀ r, Page.mayP { putR p x t is with rows := r } = decide (used r ≤ 484)) ∧ ((putR p x t is).kind = 1 ∨ (putR p x t is).kind = 2) ∧ (putR p x t is).kind = p.kind ∧ putK p x t is = keysL p.kind (putR p x t is).rows ∧ (putK p x t is).length = (putR p x t is).rows.length ∧ (∀ j, j < (putK p x t is).length → (nth (putK p x t is) j).size ≤ 1000000) := by
  obtain ⟨hn, _, _, hr⟩ := put_node h
  have hk : putK p x t is = keysL p.kind (putR p x t is).rows := if_pos h
  have hl : (putK p x t is).length = (putR p x t is).rows.length := by rw [hk, keys_len]
  have pu := put_used2 p x t is hu ht
  refine ⟨fun r => ?_, ?_, by rw [hr]; rfl, hk, hl, fun j hj => ?_⟩
  · rw [hr]
    exact may_rows (Bool.and_eq_true_iff.1 hn).2 r
  · rw [hr]
    show p.kind = 1 ∨ p.kind = 2
    rcases head_two (node_head hn) with ⟨a, _⟩ | ⟨a, _⟩
    · exact .inl a
    · exact .inr a
  · rw [hl] at hj
    rw [hk, nth_keys hj]
    exact key_size (by have := Page.nth_size hj; omega)

/-- two lists, a text, a number -/
def SplPost (A B : List ByteArray) (s : ByteArray) (c : Int) (w : World) (e : Ending) (w' : World) : Prop :=
  Below w.heap.size w w' ∧ ∃ u1 u2, e = .returned (.tuple #[u1, u2, .string s, .int .i64 c]) ∧ Page.Rows w' u1 A ∧ Page.Rows w' u2 B ∧ CapOk u1 ∧ CapOk u2
theorem SplPost.none {w w' : World} (c : Int) (h : Below w.heap.size w w') : SplPost [] [] ⟨#[]⟩ c w (.returned (.tuple #[.slice none 0 0, .slice none 0 0, .string ⟨#[]⟩, .int .i64 c])) w' :=
  ⟨h, _, _, rfl, Page.Rows.nil _ _ _, Page.Rows.nil _ _ _, Page.cap_none, Page.cap_none⟩
theorem spl_bad {p : Pg} {x : Int} {t : ByteArray} {is : Bool} (h : splE p x t is ≠ 0) : splA p x t is = [] ∧ splB p x t is = [] ∧ splS p x t is = ⟨#[]⟩ := ⟨if_neg h, if_neg h, if_neg h⟩

set_option maxRecDepth 100000 in
set_option maxHeartbeats 8000000 in
theorem split_any {w : World} {v : Value} (p : Pg) (x : Int) (t : ByteArray) (is : Bool) (h : Page.Rows w v p.rows) (hc : CapOk v) (hkd : p.kind < 256) (hu : used p.rows ≤ 900000) (ht : t.size ≤ 90000) :
    Calls Tryd.prog 27 #[pgV p v, .int .i64 x, .string t, .bool is] w (SplPost (splA p x t is) (splB p x t is) (splS p x t is) (splE p x t is) w) := by
  have T0 := Lib.hid (Pb.start h)
  have K1 := Lib.hid (fun (W : World) (T : Pb w W w.heap.size p v) => with_mid p x t is T.rows hc hkd hu ht)
  have PU := put_used2 p x t is hu ht
  have PF := Lib.hid (fun h0 => put_facts (p := p) (x := x) (t := t) (is := is) hu ht h0)
  have SB := Lib.hid (fun h0 => spl_bad (p := p) (x := x) (t := t) (is := is) h0)
  have eE : splE p x t is = if putE p x t is = 0 then (if cutN (putR p x t is).rows = 0 then 2 else 0) else putE p x t is := rfl
  have GOOD := Lib.hid (fun h0 : splE p x t is = 0 => (show splA p x t is = (putR p x t is).rows.take (cutN (putR p x t is).rows) ∧ splB p x t is = (putR p x t is).rows.drop (cutN (putR p x t is).rows) ∧ splS p x t is = (if p.kind = 1 then between (nth (keysL p.kind (putR p x t is).rows) (cutN (putR p x t is).rows - 1)) (nth (keysL p.kind (putR p x t is).rows) (cutN (putR p x t is).rows)) else nth (keysL p.kind (putR p x t is).rows) (cutN (putR p x t is).rows)) from ⟨if_pos h0, if_pos h0, if_pos h0⟩))
  have EE := Lib.hid eE
  clear eE
  generalize splE p x t is = se at *
  generalize splA p x t is = sA at *
  generalize splB p x t is = sB at *
  generalize splS p x t is = sS at *
  generalize putE p x t is = pe at *
  generalize putR p x t is = pr at *
  generalize putK p x t is = pk at *
  have U := Lib.hid PU
  obtain ⟨ad, c, rfl, _⟩ := id h
  clear h hc hu ht hkd PU
  obtain ⟨n, hn⟩ : ∃ n, n = p.rows.length := ⟨_, rfl⟩
  rw [← hn] at T0 K1 ⊢
  clear hn
  obtain ⟨a0, a1, a2, a3, a4, a5⟩ := T0.out.six
  unfold pgV pgC at *
  have PKP := Lib.hid (show PkPost pr pk pe = fun w e w' => Below w.heap.size w w' ∧ ∃ v u, e = .returned (.tuple #[pgV pr v, u, .int .i64 pe]) ∧ Page.Rows w' v pr.rows ∧ CapOk v ∧ Slot.Tx w w' u pk from rfl)
  rw [PKP.out] at K1
  clear PKP
  go_enter Tryd.func27, Tryd.ntmps27
  go_wp2_with fail
  refine (K1.out _ T0.out).mono ?_
  rintro e w1 ⟨b1, v1, uk, rfl, r1, c1, tk⟩
  have B1 := Lib.hid (T0.out.later b1).below
  have TK := Lib.hid (tx_elder tk T0.out.below.size)
  obtain ⟨ad1, cap1, hv1, _⟩ := id r1
  subst hv1
  have R1 := Lib.hid r1
  have C1 := Lib.hid c1
  clear b1 T0 a0 a1 a2 a3 a4 a5 K1 r1 c1 tk
  obtain ⟨m, hm⟩ : ∃ m, m = pr.rows.length := ⟨_, rfl⟩
  rw [← hm] at R1 C1 ⊢
  have MM := Lib.hid hm
  clear hm
  unfold pgV
  go_upto_if 25 with fail
  have P2 := Lib.hid (show Pb w (w1.alloc (.cells (pgC pr (.slice ad1 m cap1)) 26)) w1.heap.size pr (.slice ad1 m cap1) from
    ⟨heap_alloc_new w1 _, R1.out.alloc _, B1.out.trans ((below_new w1 _).mono B1.out.size)⟩)
  have TK2 := Lib.hid (TK.out.later (below_new w1 (.cells (pgC pr (.slice ad1 m cap1)) 26)))
  unfold pgC at P2 TK2
  generalize w1.alloc _ = W2 at *
  obtain ⟨g, hg⟩ : ∃ g, g = w1.heap.size := ⟨_, rfl⟩
  rw [← hg] at P2 ⊢
  clear hg R1 B1 TK
  by_cases he : pe = 0
  · obtain rfl := he
    obtain ⟨f1, f2, f3, f4, f5, f6⟩ := PF.out rfl
    rw [if_pos rfl] at EE
    have KC := Lib.hid (fun (W : World) (P : Pb w W g pr (.slice ad1 m cap1)) => cut_any pr P.rows C1.out U.out f1)
    have F2 := Lib.hid f2
    have F3 := Lib.hid f3
    have F4 := Lib.hid f4
    have F5 := Lib.hid f5
    have F6 := Lib.hid f6
    have hcl := cut_lt (l := pr.rows)
    have NL := Lib.hid (show pr.rows.length ≤ 250000 by have := Page.used_len pr.rows; have := U.out; omega)
    have CL := Lib.hid hcl
    clear f1 f2 f3 f4 f5 f6 PF hcl
    rw [← MM.out] at CL
    unfold pgV at KC
    generalize cutN pr.rows = cn at *
    obtain ⟨a0, a1, a2, a3, a4, a5⟩ := P2.out.six
    go_wp2_with fail
    refine (KC.out _ P2.out).mono ?_
    rintro e w3 ⟨rfl, b3⟩
    have P3 := Lib.hid (P2.out.later b3)
    have TK3 := Lib.hid (TK2.out.later b3)
    clear b3 P2 TK2 KC a0 a1 a2 a3 a4 a5
    by_cases hc0 : cn = 0
    · subst hc0
      rw [if_pos rfl] at EE
      have e2 : se = 2 := EE.out
      obtain ⟨q1, q2, q3⟩ := SB.out (by rw [e2]; decide)
      subst e2
      subst q1
      subst q2
      subst q3
      clear GOOD SB
      go_wp2_with fail
      exact bodyPost_ret (v := .tuple #[.slice none 0 0, .slice none 0 0, .string ⟨#[]⟩, .int .i64 2]) (by simp [results, Tryd.results27, go_sem]) rfl (SplPost.none 2 P3.out.below)
    · rw [if_neg hc0] at EE
      have e2 : se = 0 := EE.out
      obtain ⟨q1, q2, q3⟩ := GOOD.out e2
      subst e2
      obtain ⟨hcl1, hcl2⟩ := CL.out hc0
      have hcm : cn ≤ m := by omega
      have hm2 : m ≤ 250000 := by rw [MM.out]; exact NL.out
      obtain ⟨x1, s1, y1, z1⟩ := rows_head P3.out.rows C1.out (k := cn) (by rw [← MM.out]; exact hcm)
      obtain ⟨x2, s2, y2, z2⟩ := rows_tail P3.out.rows C1.out (k := cn) (by rw [← MM.out]; exact hcm)
      have ut := used_drop_le pr.rows cn
      have KA := Lib.hid (fun (W : World) (b : Below w3.heap.size w3 W) => copied_any (y1.later b) (by have := U.out; omega))
      have KB := Lib.hid (fun (W : World) (b : Below w3.heap.size w3 W) => copied_any (y2.later b) (by have := U.out; omega))
      have KS := Lib.hid (fun (W : World) (P : Pb w W g pr (.slice ad1 m cap1)) (T : Slot.Tx w W uk pk) => sep_any pr cn P.rows T F2.out hcl1 (by rw [F5.out, ← MM.out]; exact hcl2) (by rw [F5.out]; exact Nat.le_trans NL.out (by omega)) F6.out)
      obtain ⟨adk, capk, hk⟩ := TK3.out.shape
      subst hk
      obtain ⟨adx, cx, hx, _⟩ := id y1
      obtain ⟨ady, cy, hy, _⟩ := id y2
      subst hx
      subst hy
      rw [F3.out] at KS
      rw [← F4.out] at q3
      generalize (List.take cn pr.rows).length = l1 at *
      generalize (List.drop cn pr.rows).length = l2 at *
      rw [← q1] at KA
      rw [← q2] at KB
      have Q3 := Lib.hid q3
      generalize (if p.kind = 1 then between (nth pk (cn - 1)) (nth pk cn) else nth pk cn) = ss at *
      unfold pgV at KS
      generalize pk.length = l3 at *
      have PD := Lib.hid (P3.out.later ((Below.refl _ _).drew))
      have TD := Lib.hid (TK3.out.later ((Below.refl _ _).drew))
      have BD := Lib.hid (show Below w3.heap.size w3 w3.drew from (Below.refl _ _).drew)
      clear y1 y2 z1 z2 ut q1 q2 q3 GOOD SB F2 F3 F5 F6 CL NL hc0
      go_upto_region 7 with fail
      go_region_held3 (fun w' => w'.cell? ⟨g, 0, none⟩ = some (.int .u8 (pr.kind : Int)) ∧ w'.cell? ⟨g, 1, none⟩ = some (.int .u8 (pr.level : Int)) ∧ w'.cell? ⟨g, 2, none⟩ = some (.int .u32 (pr.id : Int)) ∧ w'.cell? ⟨g, 3, none⟩ = some (.int .u64 (pr.lsn : Int)) ∧ w'.cell? ⟨g, 4, none⟩ = some (.int .u32 (pr.next : Int)) ∧ w'.cell? ⟨g, 5, none⟩ = some (.slice ad1 m cap1)) (first | exact PD.out.six | exact PE.six | exact PG.six | exact PH.six)
        (first | (go_at_call 51; (with_reducible refine (KA.out _ BD.out).mono ?_); rintro e w4 ⟨u4, rfl, t4, b4⟩; have PE := PD.out.later b4; have TE := TD.out.later b4; have BE := BD.out.trans (b4.mono BD.out.size)) | (go_at_call 51; (with_reducible refine (KB.out _ BE).mono ?_); rintro e w5 ⟨u5, rfl, t5, b5⟩; have PG := PE.later b5; have TG := TE.later b5; have t4' := t4.later b5) | (go_at_call 52; (with_reducible refine (KS.out _ PG TG).mono ?_); rintro e w6 ⟨rfl, b6⟩; have PH := PG.later b6))
      have r4 := Lib.hid (Page.rows_tx (t4'.later b6))
      have r5 := Lib.hid (Page.rows_tx (t5.later b6))
      have k4 := Lib.hid (Page.cap_tx (t4'.later b6))
      have k5 := Lib.hid (Page.cap_tx (t5.later b6))
      have BB := Lib.hid PH.below
      clear PE PG PH TE TG BE t4 t5 t4' b4 b5 b6 KA KB KS PD TD BD s1 s2
      go_wp2_with fail
      refine bodyPost_ret (v := .tuple #[u4, u5, .string ss, .int .i64 0]) (by simp [results, Tryd.results27, go_sem]) rfl ⟨BB.out, u4, u5, by rw [Q3.out], r4.out, r5.out, k4.out, k5.out⟩
  · have he2 : (pe != 0) = true := by simp; exact he
    have EE2 : se = pe := by rw [EE.out, if_neg he]
    obtain ⟨q1, q2, q3⟩ := SB.out (by rw [EE2]; exact he)
    subst EE2
    subst q1
    subst q2
    subst q3
    clear GOOD SB PF he
    go_wp2_with fail
    exact bodyPost_ret (v := .tuple #[.slice none 0 0, .slice none 0 0, .string ⟨#[]⟩, .int .i64 se]) (by simp [results, Tryd.results27, go_sem]) rfl (SplPost.none se P2.out.below)

end Go.Proofs.YtbdbnpcbbebelaaDoor.Node
