/-
  Walks: NodeTells.
-/
import Derived.Test.YtbdbnpcbbebelaaDoorZ25
namespace Go.Proofs.YtbdbnpcbbebelaaDoor.Node
open Go.RowKit
open Go.Proofs.YtbdbnpcbbebelaaDoor.Page (Pg nth used pgV pgC CapOk zeroP InPg heavyB)
attribute [local go_sem ↓] Go.wp_at_zero Go.wp_at_succ

set_option maxRecDepth 100000 in
set_option maxHeartbeats 8000000 in
theorem tells_walk {w : World} {p : Pg} {v : Value} {key : ByteArray} (hp : InPg w p v) (hk : key.size ≤ 140737488351232) (x : Int) :
    Calls Tryd.prog 3 #[pgV p v, .string key, .int .i64 x] w fun e w' => e = .returned (.bool true) ∧ Below w.heap.size w w' := by
  have T0 := Lib.hid (Pb.start hp.rows)
  have KH := Lib.hid (fun (W : World) (t : Pb w W w.heap.size p v) => Page.heavy_any p t.rows hp.len hp.each)
  have LU := Lib.hid (fun h => light_used (l := p.rows) h)
  have kd := hp.wf.kind
  have K1 := Lib.hid (fun (hu : used p.rows ≤ 20000) (W : World) (t : Pb w W w.heap.size p v) => key_any p x t.rows kd (by omega))
  have K2 := Lib.hid (fun (hu : used p.rows ≤ 20000) (W : World) (t : Pb w W w.heap.size p v) => rkey_any p x t.rows (by omega))
  have K3 := Lib.hid (fun (hu : used p.rows ≤ 20000) (W : World) (t : Pb w W w.heap.size p v) => find_any p key t.rows kd (by omega))
  have K4 := Lib.hid (fun (hu : used p.rows ≤ 20000) (W : World) (t : Pb w W w.heap.size p v) => rfind_any p key t.rows (by omega) hk)
  have K5 := Lib.hid (fun (hu : used p.rows ≤ 20000) (W : World) (t : Pb w W w.heap.size p v) => child_any p key t.rows kd (by omega))
  have K6 := Lib.hid (fun (hu : used p.rows ≤ 20000) (W : World) (t : Pb w W w.heap.size p v) => rchild_any p key t.rows (by omega) hk)
  have K7 := Lib.hid (fun (hu : used p.rows ≤ 20000) (W : World) (t : Pb w W w.heap.size p v) => check_any p t.rows kd (by omega))
  have K8 := Lib.hid (fun (hu : used p.rows ≤ 20000) (W : World) (t : Pb w W w.heap.size p v) => rcheck_any p t.rows (by omega))
  have K9 := Lib.hid (fun (hu : used p.rows ≤ 20000) (W : World) (t : Pb w W w.heap.size p v) => small_any p t.rows (by omega))
  have K10 := Lib.hid (fun (hu : used p.rows ≤ 20000) (W : World) (t : Pb w W w.heap.size p v) => (show Calls Tryd.prog 19 #[v] W fun e w' => e = .returned (.int .i64 (used p.rows : Int)) ∧ W = w' from rweight_any t.rows (by omega)))
  obtain ⟨ad, c, rfl, _⟩ := hp.rows
  clear hp kd
  obtain ⟨n, hn⟩ : ∃ n, n = p.rows.length := ⟨_, rfl⟩
  rw [← hn] at T0 KH K1 K2 K3 K4 K5 K6 K7 K8 K9 K10 ⊢
  clear hn
  obtain ⟨uu, huu⟩ : ∃ u, u = used p.rows := ⟨_, rfl⟩
  rw [← huu] at LU K1 K2 K3 K4 K5 K6 K7 K8 K9 K10
  clear huu
  generalize keyT p x = kt at *
  generalize keyE p x = ke at *
  generalize findI p key = fi at *
  generalize findB p key = fb at *
  generalize chC p key = cc at *
  generalize chI p key = ci at *
  generalize chE p = ce at *
  generalize checkI p = ck at *
  generalize heavyB p.rows = hb at *
  obtain ⟨a0, a1, a2, a3, a4, a5⟩ := T0.out.six
  unfold pgV pgC at *
  go_enter Tryd.func3, Tryd.ntmps3
  go_wp2_with fail
  refine (KH.out _ T0.out).mono ?_
  rintro e w1 ⟨rfl, b1⟩
  have T1 := Lib.hid (T0.out.later b1)
  clear b1 T0 a0 a1 a2 a3 a4 a5 KH
  cases hb with
  | true =>
    clear K1 K2 K3 K4 K5 K6 K7 K8 K9 K10 LU
    go_wp2_with fail
    refine (alive_any _).mono ?_
    rintro e w2 ⟨rfl, b2⟩
    have B2 := Lib.hid (T1.out.later b2).below
    clear b2 T1
    go_wp2_with fail
    go_ret
    exact ⟨rfl, B2.out⟩
  | false =>
  have hu := LU.out rfl
  by_cases hl : 512 < key.size
  · clear K1 K2 K3 K4 K5 K6 K7 K8 K9 K10 LU
    go_wp2_with fail
    refine (alive_any _).mono ?_
    rintro e w2 ⟨rfl, b2⟩
    have B2 := Lib.hid (T1.out.later b2).below
    clear b2 T1
    go_wp2_with fail
    go_ret
    exact ⟨rfl, B2.out⟩
  have Q1 := Lib.hid (K1.out hu)
  have Q2 := Lib.hid (K2.out hu)
  have Q3 := Lib.hid (K3.out hu)
  have Q4 := Lib.hid (K4.out hu)
  have Q5 := Lib.hid (K5.out hu)
  have Q6 := Lib.hid (K6.out hu)
  have Q7 := Lib.hid (K7.out hu)
  have Q8 := Lib.hid (K8.out hu)
  have Q9 := Lib.hid (K9.out hu)
  have Q10 := Lib.hid (K10.out hu)
  clear K1 K2 K3 K4 K5 K6 K7 K8 K9 K10 LU
  obtain ⟨a0, a1, a2, a3, a4, a5⟩ := T1.out.six
  go_wp2_with fail
  refine (Q1.out _ T1.out).mono ?_
  rintro e w2 ⟨rfl, b2⟩
  have T2 := Lib.hid (T1.out.later b2)
  clear b2 T1 a0 a1 a2 a3 a4 a5 Q1
  obtain ⟨a0, a1, a2, a3, a4, a5⟩ := T2.out.six
  go_wp2_with fail
  refine (Q2.out _ T2.out).mono ?_
  rintro e w3 ⟨rfl, b3⟩
  have T3 := Lib.hid (T2.out.later b3)
  clear b3 T2 a0 a1 a2 a3 a4 a5 Q2
  obtain ⟨a0, a1, a2, a3, a4, a5⟩ := T3.out.six
  go_wp2_with fail
  refine (Q3.out _ T3.out).mono ?_
  rintro e w4 ⟨rfl, b4⟩
  have T4 := Lib.hid (T3.out.later b4)
  clear b4 T3 a0 a1 a2 a3 a4 a5 Q3
  obtain ⟨a0, a1, a2, a3, a4, a5⟩ := T4.out.six
  go_wp2_with fail
  refine (Q4.out _ T4.out).mono ?_
  rintro e w5 ⟨rfl, b5⟩
  have T5 := Lib.hid (T4.out.later b5)
  clear b5 T4 a0 a1 a2 a3 a4 a5 Q4
  obtain ⟨a0, a1, a2, a3, a4, a5⟩ := T5.out.six
  go_wp2_with fail
  refine (Q5.out _ T5.out).mono ?_
  rintro e w6 ⟨rfl, b6⟩
  have T6 := Lib.hid (T5.out.later b6)
  clear b6 T5 a0 a1 a2 a3 a4 a5 Q5
  obtain ⟨a0, a1, a2, a3, a4, a5⟩ := T6.out.six
  go_wp2_with fail
  refine (Q6.out _ T6.out).mono ?_
  rintro e w7 ⟨rfl, b7⟩
  have T7 := Lib.hid (T6.out.later b7)
  clear b7 T6 a0 a1 a2 a3 a4 a5 Q6
  go_upto_region 9 with fail
  obtain ⟨g, hg⟩ : ∃ g, g = w.heap.size := ⟨_, rfl⟩
  rw [← hg] at T7 Q7 Q8 Q9 Q10 ⊢
  have G := Lib.hid hg
  clear hg
  have TD := Lib.hid (T7.out.later ((Below.refl _ _).drew))
  have z1 := Page.beq_yes kt
  have z2 : IntKind.i64.wrap (3 * (uu : Int)) = 3 * (uu : Int) := IntWalk.i64_in _ (by omega)
  clear T7 hl
  go_region_held3 (fun w' => w'.cell? ⟨g, 0, none⟩ = some (.int .u8 (p.kind : Int)) ∧ w'.cell? ⟨g, 1, none⟩ = some (.int .u8 (p.level : Int)) ∧ w'.cell? ⟨g, 2, none⟩ = some (.int .u32 (p.id : Int)) ∧ w'.cell? ⟨g, 3, none⟩ = some (.int .u64 (p.lsn : Int)) ∧ w'.cell? ⟨g, 4, none⟩ = some (.int .u32 (p.next : Int)) ∧ w'.cell? ⟨g, 5, none⟩ = some (.slice ad n c)) (first | exact TD.out.six | exact TE.six | exact TF.six | exact TG.six | exact TH.six)
    (first | (go_at_call 16; (with_reducible refine (Q7.out _ TD.out).mono ?_); rintro e w8 ⟨rfl, b8⟩; have TE := TD.out.later b8) | (go_at_call 17; (with_reducible refine (Q8.out _ TE).mono ?_); rintro e w9 ⟨rfl, b9⟩; have TF := TE.later b9) | (go_at_call 18; (with_reducible refine (Q9.out _ TF).mono ?_); rintro e w10 ⟨rfl, b10⟩; have TG := TF.later b10) | (go_at_call 19; (with_reducible refine (Q10.out _ TG).mono ?_); rintro e w11 ⟨rfl, rfl⟩) | (go_at_call 9; (with_reducible refine (alive_any _).mono ?_); rintro e w12 ⟨rfl, b12⟩; have TH := TG.later b12))
  have BB := Lib.hid TH.below
  go_wp2_with fail
  go_ret
  exact ⟨rfl, BB.out⟩

end Go.Proofs.YtbdbnpcbbebelaaDoor.Node
