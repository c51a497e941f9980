/- Walks: what an entry's bytes are. -/
import Derived.Test.YtobnenjhmkbdoaaDoorOX
namespace Go.Proofs.YtobnenjhmkbdoaaDoor.Row
open Go.RowKit
attribute [local go_sem ↓] Go.wp_at_zero Go.wp_at_succ

/-- two entries of the call's own -/
structure Duo (w W : World) (g h : Nat) (a b : En) : Prop where
  a : Ex w W g a
  b : Ex w W h b
theorem Duo.later {w W W' : World} {g h : Nat} {a b : En} (t : Duo w W g h a b) (c : Below W.heap.size W W') : Duo w W' g h a b := ⟨t.a.later c, t.b.later c⟩
theorem Duo.start (w : World) (a b : En) : Duo w ((w.alloc (.cells (enC a) 42)).alloc (.cells (enC b) 42)) w.heap.size (w.heap.size + 1) a b := by
  obtain ⟨h1, h2, h3⟩ := two_ents w (enC a) (enC b)
  exact ⟨⟨h1, h3⟩, ⟨h2, h3⟩⟩
theorem Duo.all {w W : World} {g h : Nat} {a b : En} (t : Duo w W g h a b) : (W.cell? ⟨g, 0, none⟩ = some (.string a.key) ∧ W.cell? ⟨g, 1, none⟩ = some (.int .u32 (a.child : Int))) ∧ (W.cell? ⟨h, 0, none⟩ = some (.string b.key) ∧ W.cell? ⟨h, 1, none⟩ = some (.int .u32 (b.child : Int))) := ⟨t.a.all, t.b.all⟩

set_option maxRecDepth 100000 in
set_option maxHeartbeats 4000000 in
/-- behind the first test, where nothing was found -/
theorem entries_walk {w : World} {a b : En} (ha : a.wf) (hb : b.wf) : Calls Tryd.prog 7 #[enV a, enV b] w fun e w' => e = .returned (.bool true) ∧ Below w.heap.size w w' := by
  have T0 := Lib.hid (Duo.start w a b)
  have K1 := Lib.hid (fun W => ent_any a W ha)
  have K2 := Lib.hid (fun W => rent_any a W ha)
  have K3 := Lib.hid (fun W => ent_any b W hb)
  have NO := Lib.hid (fun (h : mayE a = false) => (show entS a = ⟨#[]⟩ ∧ entE a = 2 by unfold entS entE; rw [if_neg (by rw [h]; decide), if_neg (by rw [h]; decide)]; exact ⟨rfl, rfl⟩))
  have YES := Lib.hid (fun (h : mayE a = true) => (show entE a = 0 by unfold entE; rw [if_pos h]))
  have NOb := Lib.hid (fun (h : mayE b = false) => (show entE b = 2 by unfold entE; rw [if_neg (by rw [h]; decide)]))
  have YESb := Lib.hid (fun (h : mayE b = true) => (show entE b = 0 by unfold entE; rw [if_pos h]))
  have NE := Lib.hid (fun (h1 : mayE a = true) (h2 : mayE b = true) (h : a ≠ b) => (show ((entS a).toList == (entS b).toList) = false from beq_no (fun e => h (ent_inj ha hb h1 h2 e))))
  have EQ := Lib.hid (fun (h : a = b) => (show ((entS a).toList == (entS b).toList) = true by rw [h]; exact beq_yes _))
  have KD := Lib.hid (fun (h : mayE a = true) W => (show Calls Tryd.prog 17 #[.string (entS a)] W fun e w' => e = .returned (.tuple #[enV a, .int .i64 0]) ∧ Below W.heap.size W w' by
    obtain ⟨k1, k2⟩ := dec_ent ha h
    have hz : (entS a).size ≤ 140737488351232 := by
      have := (mayE_parts h).1
      unfold entS
      rw [if_pos h, ByteArray.size_append, nb_size]
      omega
    have := dece_any (entS a) W hz
    unfold DecQ at this
    rw [k2, (okE_yes k1).2] at this
    exact this))
  have SN := Lib.hid (fun (h : a ≠ b) W => ent_ne h W)
  have SY := Lib.hid (fun (h : a = b) W => (show (binOp .eql 42 (enV a) (enV b)).run Tryd.prog W = .ok (.bool true) W by rw [h]; exact ent_same b W))
  have za := ha.key
  have zb := hb.key
  clear ha hb
  generalize entS a = S at *
  generalize entE a = E at *
  generalize entS b = U at *
  generalize entE b = G at *
  obtain ⟨⟨a0, a1⟩, ⟨c0, c1⟩⟩ := T0.out.all
  unfold enV enC at *
  by_cases hl : 1024 < a.key.size + b.key.size
  · clear K1 K2 K3 NO YES NOb YESb NE EQ KD SN SY
    go_enter Tryd.func7, Tryd.ntmps7
    go_wp2_with fail
    refine (alive_any _).mono ?_
    rintro e w2 ⟨rfl, b2⟩
    have E := Lib.hid (T0.out.later b2).a.below
    clear b2 T0
    go_wp2_with fail
    go_ret
    exact ⟨rfl, E.out⟩
  go_enter Tryd.func7, Tryd.ntmps7
  go_wp2_with fail
  clear a0 a1 c0 c1
  generalize (w.alloc _).alloc _ = W0 at *
  generalize hh : w.heap.size + 1 = h at *
  clear hh
  generalize hg : w.heap.size = g at *
  obtain ⟨⟨a0, a1⟩, ⟨c0, c1⟩⟩ := T0.out.all
  refine (K1.out _).mono ?_
  rintro e w1 ⟨rfl, b1⟩
  have T1 := Lib.hid (T0.out.later b1)
  clear b1 T0 a0 a1 c0 c1 K1
  obtain ⟨⟨a0, a1⟩, ⟨c0, c1⟩⟩ := T1.out.all
  go_wp2_with fail
  refine (K2.out _).mono ?_
  rintro e w2 ⟨rfl, b2⟩
  have T2 := Lib.hid (T1.out.later b2)
  clear b2 T1 a0 a1 c0 c1 K2
  obtain ⟨⟨a0, a1⟩, ⟨c0, c1⟩⟩ := T2.out.all
  go_wp2_with fail
  refine (K3.out _).mono ?_
  rintro e w3 ⟨rfl, b3⟩
  have T3 := Lib.hid (T2.out.later b3)
  clear b3 T2 a0 a1 c0 c1 K3
  obtain ⟨⟨a0, a1⟩, ⟨c0, c1⟩⟩ := T3.out.all
  go_upto_region 6 with fail
  go_cut [61] (fun c wx => c = .bool false ∧ wx = w3)
  case first =>
    by_cases ma : mayE a = true
    · have hE : (E == 0) = true := by rw [YES.out ma]; rfl
      by_cases mb : mayE b = true
      · have hG : (G == 0) = true := by rw [YESb.out mb]; rfl
        by_cases hab : a = b
        · have h1 := EQ.out hab
          have h2 := SY.out hab
          clear NO YES NOb YESb NE EQ KD SN SY hab ma mb
          go_wp2_with fail
          go_meet
          exact ⟨rfl, rfl⟩
        · have h1 := NE.out ma mb hab
          have h2 := SN.out hab
          clear NO YES NOb YESb NE EQ KD SN SY hab ma mb
          go_wp2_with fail
          go_meet
          exact ⟨rfl, rfl⟩
      · have hG : (G == 0) = false := by rw [NOb.out (by simpa using mb)]; rfl
        clear NO YES NOb YESb NE EQ KD SN SY ma mb
        go_wp2_with fail
        go_meet
        exact ⟨rfl, rfl⟩
    · have hE : (E == 0) = false := by rw [(NO.out (by simpa using ma)).2]; rfl
      clear NO YES NOb YESb NE EQ KD SN SY ma
      go_wp2_with fail
      go_meet
      exact ⟨rfl, rfl⟩
  case rest =>
    obtain ⟨rfl, rfl⟩ := hcut
    clear NOb YESb NE EQ SN SY
    cases ma : mayE a with
    | false =>
      obtain ⟨rfl, rfl⟩ := NO.out ma
      clear NO YES KD ma
      go_wp2_with fail
      refine (alive_any _).mono ?_
      rintro e w4 ⟨rfl, b2⟩
      have E := Lib.hid (T3.out.later b2).a.below
      clear b2 T3
      go_wp2_with fail
      go_ret
      exact ⟨rfl, E.out⟩
    | true =>
      obtain rfl := YES.out ma
      have KK := Lib.hid (KD.out ma)
      clear NO YES KD ma
      go_wp2_with fail
      refine (KK.out _).mono ?_
      rintro e w4 ⟨rfl, b4⟩
      have T4 := T3.out.later b4
      have T5 := Lib.hid (T4.later (below_new w4 (.cells #[.string a.key, .int .u32 (a.child : Int)] 42)))
      clear T3 T4 b4 a0 a1 c0 c1 KK
      obtain ⟨⟨a0, a1⟩, ⟨c0, c1⟩⟩ := T5.out.all
      go_wp2_with fail
      refine (alive_any _).mono ?_
      rintro e w5 ⟨rfl, b2⟩
      have E := Lib.hid (T5.out.later b2).a.below
      clear b2 T5 a0 a1 c0 c1
      go_wp2_with fail
      go_ret
      exact ⟨rfl, E.out⟩

end Go.Proofs.YtobnenjhmkbdoaaDoor.Row
