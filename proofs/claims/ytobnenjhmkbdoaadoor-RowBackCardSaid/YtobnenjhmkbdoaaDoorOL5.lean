/- Walks: what was written is read as itself. -/
import Derived.Test.YtobnenjhmkbdoaaDoorOX
import Derived.Test.YtobnenjhmkbdoaaDoorOM2
namespace Go.Proofs.YtobnenjhmkbdoaaDoor.Row
open Go.RowKit
attribute [local go_sem ↓] Go.wp_at_zero Go.wp_at_succ

/-- two rows of the call's own -/
structure Pair (w W : World) (g h : Nat) (a b : Rw) : Prop where
  a : Bx w W g a
  b : Bx w W h b
theorem Pair.later {w W W' : World} {g h : Nat} {a b : Rw} (t : Pair w W g h a b) (c : Below W.heap.size W W') : Pair w W' g h a b := ⟨t.a.later c, t.b.later c⟩
theorem Pair.start (w : World) (a b : Rw) : Pair w ((w.alloc (.cells (rwC a) 28)).alloc (.cells (rwC b) 28)) w.heap.size (w.heap.size + 1) a b := by
  have t1 := Bx.start w a
  have b1 := below_new (w.alloc (.cells (rwC a) 28)) (.cells (rwC b) 28)
  have z : (w.alloc (.cells (rwC a) 28)).heap.size = w.heap.size + 1 := by simp
  have t2 := Bx.make (w := w.alloc (.cells (rwC a) 28)) b t1.below
  rw [z] at t2
  exact ⟨t1.later b1, t2⟩
theorem Pair.all {w W : World} {g h : Nat} {a b : Rw} (t : Pair w W g h a b) : BxA W g a ∧ BxA W h b := ⟨t.a.all, t.b.all⟩

set_option maxRecDepth 100000 in
set_option maxHeartbeats 4000000 in
theorem back_walk {w : World} {a b : Rw} {s : ByteArray} (ha : a.wf) (hb : b.wf) (hs : s.size ≤ 140737488351232) : Calls Tryd.prog 5 #[rwV a, rwV b, .string s] w fun e w' => e = .returned (.bool true) ∧ Below w.heap.size w w' := by
  have T0 := Lib.hid (Pair.start w a b)
  have KLa := Lib.hid (fun W => long_any a W ha)
  have KLb := Lib.hid (fun W => long_any b W hb)
  have K1 := Lib.hid (fun W => encode_any a W ha)
  have K2 := Lib.hid (fun W => encode_any b W hb)
  have NO := Lib.hid (fun (h : mayR a = false) => (show encE a = 2 by unfold encE; rw [if_neg (by rw [h]; decide)]))
  have YES := Lib.hid (fun (h : mayR a = true) => (show encE a = 0 by unfold encE; rw [if_pos h]))
  have NOb := Lib.hid (fun (h : mayR b = false) => (show encE b = 2 by unfold encE; rw [if_neg (by rw [h]; decide)]))
  have YESb := Lib.hid (fun (h : mayR b = true) => (show encE b = 0 by unfold encE; rw [if_pos h]))
  have NE := Lib.hid (fun (h1 : mayR a = true) (h2 : mayR b = true) (h : a ≠ b) => (show ((encS a).toList == (encS b).toList) = false from beq_no (fun e => h (enc_inj ha hb h1 h2 e))))
  have EQ := Lib.hid (fun (h : a = b) => (show ((encS a).toList == (encS b).toList) = true by rw [h]; exact beq_yes _))
  have KD := Lib.hid (fun (h : mayR a = true) W => (show Calls Tryd.prog 15 #[.string (encS a)] W fun e w' => e = .returned (.tuple #[rwV a, .int .i64 0]) ∧ Below W.heap.size W w' by
    obtain ⟨k1, k2⟩ := dec_enc ha h
    have hz : (encS a).size ≤ 140737488351232 := by
      obtain ⟨p1, p2, p3, p4, p5, p6⟩ := may_parts h
      unfold encS
      rw [if_pos h, body_size]
      omega
    obtain ⟨k3, k4⟩ := is_ok k1
    have := decode_any (encS a) W hz
    rw [k3, k4, k2] at this
    exact this))
  have SN := Lib.hid (fun (h : a ≠ b) W => row_ne h W)
  have SY := Lib.hid (fun (h : a = b) W => (show (binOp .eql 28 (rwV a) (rwV b)).run Tryd.prog W = .ok (.bool true) W by rw [h]; exact row_same b W))
  have KS := Lib.hid (fun W => decode_any s W hs)
  have KN := Lib.hid (fun (h : ¬ okR s = true) => not_ok h)
  have KY := Lib.hid (fun (h : okR s = true) => (show decR s = rdR s ∧ decE s = 0 from is_ok h))
  have KE := Lib.hid (fun (h : okR s = true) W => (show Calls Tryd.prog 10 #[rwV (rdR s)] W fun e w' => e = .returned (.tuple #[.string s, .int .i64 0]) ∧ Below W.heap.size W w' by
    obtain ⟨k1, k2⟩ := enc_dec hs h
    have := encode_any (rdR s) W (rd_wf hs)
    rw [show encE (rdR s) = 0 by unfold encE; rw [if_pos k1], k2] at this
    exact this))
  clear ha hb
  generalize encS a = S at *
  generalize encE a = E at *
  generalize encS b = U at *
  generalize encE b = G at *
  generalize rdR s = q at *
  generalize decR s = dr at *
  generalize decE s = de at *
  obtain ⟨⟨a0, a1, a2, a3, a4, a5, a6⟩, ⟨c0, c1, c2, c3, c4, c5, c6⟩⟩ := T0.out.all
  unfold rwV rwC at *
  go_enter Tryd.func5, Tryd.ntmps5
  go_wp2_with fail
  clear a0 a1 a2 a3 a4 a5 a6 c0 c1 c2 c3 c4 c5 c6
  generalize (w.alloc _).alloc _ = W0 at *
  generalize hh : w.heap.size + 1 = h at *
  clear hh
  generalize hg : w.heap.size = g at *
  refine (KLa.out _).mono ?_
  rintro e w1 ⟨rfl, b1⟩
  have T1 := Lib.hid (T0.out.later b1)
  clear b1 T0 KLa
  cases longB a with
  | true =>
    clear K1 K2 NO YES NOb YESb NE EQ KD SN SY KS KN KY KE KLb
    go_wp2_with fail
    refine (alive_any _).mono ?_
    rintro e w2 ⟨rfl, b2⟩
    have E := Lib.hid (T1.out.later b2).a.below
    clear b2 T1
    go_wp2_with fail
    go_ret
    exact ⟨rfl, by rw [hg] at *; exact E.out⟩
  | false =>
  obtain ⟨⟨a0, a1, a2, a3, a4, a5, a6⟩, ⟨c0, c1, c2, c3, c4, c5, c6⟩⟩ := T1.out.all
  go_wp2_with fail
  refine (KLb.out _).mono ?_
  rintro e w2 ⟨rfl, b2⟩
  have T2 := Lib.hid (T1.out.later b2)
  clear b2 T1 a0 a1 a2 a3 a4 a5 a6 c0 c1 c2 c3 c4 c5 c6 KLb
  cases longB b with
  | true =>
    clear K1 K2 NO YES NOb YESb NE EQ KD SN SY KS KN KY KE
    go_wp2_with fail
    refine (alive_any _).mono ?_
    rintro e w3 ⟨rfl, b2⟩
    have E := Lib.hid (T2.out.later b2).a.below
    clear b2 T2
    go_wp2_with fail
    go_ret
    exact ⟨rfl, by rw [hg] at *; exact E.out⟩
  | false =>
  by_cases hl : 1024 < s.size
  · clear K1 K2 NO YES NOb YESb NE EQ KD SN SY KS KN KY KE
    go_wp2_with fail
    refine (alive_any _).mono ?_
    rintro e w3 ⟨rfl, b2⟩
    have E := Lib.hid (T2.out.later b2).a.below
    clear b2 T2
    go_wp2_with fail
    go_ret
    exact ⟨rfl, by rw [hg] at *; exact E.out⟩
  obtain ⟨⟨a0, a1, a2, a3, a4, a5, a6⟩, ⟨c0, c1, c2, c3, c4, c5, c6⟩⟩ := T2.out.all
  go_wp2_with fail
  refine (K1.out _).mono ?_
  rintro e w3 ⟨rfl, b2⟩
  have T3 := Lib.hid (T2.out.later b2)
  clear b2 T2 a0 a1 a2 a3 a4 a5 a6 c0 c1 c2 c3 c4 c5 c6 K1
  obtain ⟨⟨a0, a1, a2, a3, a4, a5, a6⟩, ⟨c0, c1, c2, c3, c4, c5, c6⟩⟩ := T3.out.all
  go_wp2_with fail
  refine (K2.out _).mono ?_
  rintro e w4 ⟨rfl, b2⟩
  have T4 := Lib.hid (T3.out.later b2)
  clear b2 T3 a0 a1 a2 a3 a4 a5 a6 c0 c1 c2 c3 c4 c5 c6 K2
  go_upto_if 40 with fail
  go_cut [40] (fun c wx => c = .bool (E == 0) ∧ Pair w wx g h a b)
  case first =>
    clear KS KN KY KE
    by_cases ma : mayR a = true
    · have hE : (E == 0) = true := by rw [YES.out ma]; rfl
      have HE := Lib.hid hE
      have KK := Lib.hid (KD.out ma)
      clear KD
      go_wp2_with fail
      refine (KK.out _).mono ?_
      rintro e w5 ⟨rfl, b5⟩
      have T5 := T4.out.later b5
      have T6 := Lib.hid (T5.later (below_new w5 (.cells #[.string a.key, .bool a.mark, .int .u64 (a.tx : Int), .int .u32 (a.page : Int), .int .u16 (a.slot : Int), .string a.value, .int .i64 a.pad] 28)))
      clear T5 T4 b5 KK
      obtain ⟨⟨a0, a1, a2, a3, a4, a5, a6⟩, ⟨c0, c1, c2, c3, c4, c5, c6⟩⟩ := T6.out.all
      by_cases mb : mayR b = true
      · have hG : (G == 0) = true := by rw [YESb.out mb]; rfl
        by_cases hab : a = b
        · have h1 := EQ.out hab
          have h2 := SY.out hab
          clear NO YES NOb YESb NE EQ SN SY hab ma mb
          go_wp2_with fail
          go_meet
          exact ⟨by rw [HE.out], T6.out⟩
        · have h1 := NE.out ma mb hab
          have h2 := SN.out hab
          clear NO YES NOb YESb NE EQ SN SY hab ma mb
          go_wp2_with fail
          go_meet
          exact ⟨by rw [HE.out], T6.out⟩
      · have hG : (G == 0) = false := by rw [NOb.out (by simpa using mb)]; rfl
        clear NO YES NOb YESb NE EQ SN SY ma mb
        go_wp2_with fail
        go_meet
        exact ⟨by rw [HE.out], T6.out⟩
    · have hE : (E == 0) = false := by rw [NO.out (by simpa using ma)]; rfl
      have HE := Lib.hid hE
      clear NO YES NOb YESb NE EQ KD SN SY ma
      go_wp2_with fail
      go_meet
      exact ⟨by rw [HE.out], T4.out⟩
  case rest =>
    obtain ⟨rfl, T5⟩ := hcut
    rename_i wx _
    have T5 := Lib.hid T5
    clear NO YES NOb YESb NE EQ KD SN SY T4
    go_wp2_with fail
    refine (KS.out _).mono ?_
    rintro e w6 ⟨rfl, b6⟩
    have T6 := Lib.hid (T5.out.later b6)
    clear T5 b6 KS
    by_cases hok : okR s = true
    · obtain ⟨rfl, rfl⟩ := KY.out hok
      have KK := Lib.hid (KE.out hok)
      clear KY KN KE hok
      have B6 := Lib.hid ((T6.out.later (below_new w6 (.cells #[.string dr.key, .bool dr.mark, .int .u64 (dr.tx : Int), .int .u32 (dr.page : Int), .int .u16 (dr.slot : Int), .string dr.value, .int .i64 dr.pad] 28))).a.below)
      clear T6
      go_wp2_with fail
      refine (KK.out _).mono ?_
      rintro e w7 ⟨rfl, b7⟩
      have B7 := Lib.hid (B6.out.trans (b7.mono B6.out.size))
      clear B6 b7 KK
      go_wp2_with fail
      refine (alive_any _).mono ?_
      rintro e w8 ⟨rfl, b8⟩
      have E := Lib.hid (B7.out.trans (b8.mono B7.out.size))
      clear B7 b8
      go_wp2_with fail
      go_ret
      exact ⟨rfl, by rw [hg] at *; exact E.out⟩
    · obtain ⟨e1, e2⟩ := KN.out hok
      have e3 : dr = ⟨⟨#[]⟩, false, 0, 0, 0, ⟨#[]⟩, 0⟩ := e1
      subst e3
      subst e2
      clear KY KN KE hok e1
      have B6 := Lib.hid ((T6.out.later (below_new w6 (.cells #[.string ⟨#[]⟩, .bool false, .int .u64 0, .int .u32 0, .int .u16 0, .string ⟨#[]⟩, .int .i64 0] 28))).a.below)
      clear T6
      go_wp2_with fail
      refine (alive_any _).mono ?_
      rintro e w7 ⟨rfl, b7⟩
      have E := Lib.hid (B6.out.trans (b7.mono B6.out.size))
      clear B6 b7
      go_wp2_with fail
      go_ret
      exact ⟨rfl, by rw [hg] at *; exact E.out⟩

end Go.Proofs.YtobnenjhmkbdoaaDoor.Row
