/-
  Sorting of numbers: less and not less apart.
  Sorting of numbers: the generator; patterns broken.
-/
import Derived.Deep.CutBlock
import Derived.Deep.DeepCutAuto
import Derived.Test.YtfcibccipkokoaaShelf
import Derived.Sort.LotD1
import Derived.Sort.LotD5
import Derived.Laws.BitsAllLaws
import Derived.Test.YtfcibccipkokoaaZ20
namespace Go.Proofs.Ytfcibccipkokoaa.Qs
open Go.RowKit
attribute [local go_sem ↓] Go.wp_at_zero Go.wp_at_succ

/-- a number, a truth and an array, handed back -/
def Qp (w : World) (g n : Nat) (r : Nat × Bool × Array Nat) : Ending → World → Prop := fun e w' => e = .returned (.tuple #[.int .i64 (r.1 : Int), .bool r.2.1]) ∧ St w w' g n r.2.2
theorem part_eq {d : Array Nat} {a b t i j : Nat} {d2 : Array Nat} (h2 : d2 = Go.Sort.swp d a t) (hi : i = Go.Sort.scanUp (fun x => lt x d2[a]!) d2 (b - 1) (a + 1)) (hj : j = Go.Sort.scanDown (fun x => !lt x d2[a]!) d2 i (b - 1)) :
    Go.Sort.partition lt d a b t = if i > j then (j, true, Go.Sort.swp d2 j a) else ((Go.Sort.partLoop lt a (i + 1) (j - 1) (Go.Sort.swp d2 i j)).1, false, Go.Sort.swp (Go.Sort.partLoop lt a (i + 1) (j - 1) (Go.Sort.swp d2 i j)).2 (Go.Sort.partLoop lt a (i + 1) (j - 1) (Go.Sort.swp d2 i j)).1 a) := by
  subst h2 hi hj
  rfl

set_option maxRecDepth 100000 in
set_option maxHeartbeats 4000000 in
theorem part_any {w : World} {g n c a b t : Nat} {d : Array Nat} (h : Hs w g d) (hn : d.size = n) (hat : a ≤ t) (htb : t < b) (hb : b ≤ n) (hs : n ≤ 1000000) :
    Calls Try.prog 91 #[.slice (some ⟨g, 0, none⟩) n c, .int .i64 (a : Int), .int .i64 (b : Int), .int .i64 (t : Int)] w (Qp w g n (Go.Sort.partition lt d a b t)) := by
  obtain ⟨R, hR⟩ : ∃ R, R = Go.Sort.partition lt d a b t := ⟨_, rfl⟩
  rw [← hR]
  obtain ⟨z, hz⟩ : ∃ z, z = b - 1 := ⟨_, rfl⟩
  obtain ⟨a1, ha1⟩ : ∃ a1, a1 = a + 1 := ⟨_, rfl⟩
  obtain ⟨d2, hd2⟩ : ∃ d2, d2 = Go.Sort.swp d a t := ⟨_, rfl⟩
  obtain ⟨U, hU⟩ : ∃ U, U = Go.Sort.scanUp (fun x => lt x d2[a]!) d2 z a1 := ⟨_, rfl⟩
  obtain ⟨V, hV⟩ : ∃ V, V = Go.Sort.scanDown (fun x => !lt x d2[a]!) d2 U z := ⟨_, rfl⟩
  have HR := Lib.hid (hR.trans (part_eq (i := U) (j := V) hd2 (by rw [hU, hz, ha1]) (by rw [hV, hz])))
  have HU := Lib.hid hU.symm
  have HV := Lib.hid hV.symm
  have S0 := Lib.hid (show St w w g n d from ⟨h, Touch.refl _ _, hn⟩)
  have u1 : IntKind.i64.wrap ((b : Int) - 1) = (z : Int) := by rw [w64 (by omega)]; omega
  have u2 : IntKind.i64.wrap ((a : Int) + 1) = (a1 : Int) := by rw [w64 (by omega)]; omega
  have an : a < n := by omega
  have tn : t < n := by omega
  have zn : z < n := by omega
  have a1z : a1 ≤ z + 1 := by omega
  have aa : a < a1 := by omega
  have b1 : (0 : Int) ≤ (a : Int) := by omega
  have b2 : (a : Int) < (n : Int) := by omega
  have b3 : (0 : Int) ≤ (t : Int) := by omega
  have b4 : (t : Int) < (n : Int) := by omega
  clear hR hU hV h hz ha1 hat htb hb hn
  go_enter Try.func91, Try.ntmps91
  go_upto_region 1 with fail
  have c1 := S0.out.cell an
  have c2 := S0.out.cell tn
  have z1 := S0.out.hs.free a
  have z2 := S0.out.hs.free t
  have S1 := Lib.hid (S0.out.swp an tn)
  obtain ⟨v3, c3⟩ : ∃ v, (w.setCell ⟨g, a, none⟩ (.int .u32 (d[t]! : Int))).cell? ⟨g, t, none⟩ = some v := ⟨_, (S0.out.set an _).cell tn⟩
  rw [← hd2] at S1
  clear hd2
  generalize hx1 : d[a]! = x1 at *
  generalize hx2 : d[t]! = x2 at *
  go_region
  all_goals
    have S2 := Lib.hid (S1.out.later (Below.refl _ _).drew)
    clear c1 c2 c3 z1 z2 S1 S0
    go_upto_region 2 with fail
    generalize (World.setCell _ _ _).drew = w2 at *
    clear hx1 hx2 b3 b4

    go_upto_block 0 with fail
    go_cut [10] from 30 to 45 (fun i wx => i = .int .i64 (U : Int) ∧ (a1 ≤ U ∧ U ≤ z + 1) ∧ St w wx g n d2)
    case first =>
      go_wp2_with fail
      go_loopw [10] (fun i wr => ∃ (k2 : Nat), i = .int .i64 (k2 : Int) ∧ a1 ≤ k2 ∧ k2 ≤ z + 1 ∧ St w wr g n d2 ∧ Go.Sort.scanUp (fun x => lt x d2[a]!) d2 z k2 = U) (fun i _ => (z + 1 - (intOf i).toNat))
      case atStart => exact ⟨a1, rfl, Nat.le_refl _, a1z, S2.out, HU.out⟩
      case round =>
        obtain ⟨k2, rfl, hk2, hk3, hs', hu'⟩ := hrel
        have S4 := Lib.hid hs'
        have HU4 := Lib.hid hu'
        clear hs' hu' S2 HU
        by_cases hle : k2 ≤ z
        · have k2n : k2 < n := by omega
          have j1 : (0 : Int) ≤ (k2 : Int) := by omega
          have j2 : (k2 : Int) < (n : Int) := by omega
          have e1 : decide (k2 ≤ z) = true := decide_eq_true hle
          have c1 := S4.out.cell an
          have c2 := S4.out.cell k2n
          have LS := Lib.hid (fun W => less_any (d2[k2]!) (d2[a]!) W)
          cases hl : lt d2[k2]! d2[a]!
          · have HE := Lib.hid (show k2 = U from (up_end (p := fun x => lt x d2[a]!) (.inr hl)).symm.trans HU4.out)
            rw [hl] at LS
            clear hl
            go_upto_region 3 with fail
            go_quiet ((go_at_call 89; exact Calls.quiet_of_same (LS.out _)))
            go_wp2_with fail
            go_meet
            exact ⟨by rw [HE.out], ⟨by have := HE.out; omega, by have := HE.out; omega⟩, S4.out.later (drewN_below _ _)⟩
          · have HU2 := Lib.hid (show Go.Sort.scanUp (fun x => lt x d2[a]!) d2 z (k2 + 1) = U from (up_go (p := fun x => lt x d2[a]!) hle hl).symm.trans HU4.out)
            rw [hl] at LS
            clear hl
            have u9 : IntKind.i64.wrap ((k2 : Int) + 1) = ((k2 + 1 : Nat) : Int) := by rw [w64 (by omega)]; omega
            go_upto_region 3 with fail
            go_quiet ((go_at_call 89; exact Calls.quiet_of_same (LS.out _)))
            go_wp2_with fail
            go_roundw
            case rel => exact ⟨k2 + 1, by go_num, by omega, by omega, S4.out.later (drewN_below _ _), HU2.out⟩
            case measure => simp [intOf]; omega
        · have HE := Lib.hid (show k2 = U from (up_end (p := fun x => lt x d2[a]!) (.inl hle)).symm.trans HU4.out)
          have e1 : decide (k2 ≤ z) = false := decide_eq_false hle
          go_upto_region 3 with fail
          go_quiet (fail)
          go_wp2_with fail
          go_meet
          exact ⟨by rw [HE.out], ⟨by have := HE.out; omega, by have := HE.out; omega⟩, S4.out.later (drewN_below _ _)⟩
    case rest =>
      obtain ⟨rfl, ⟨hU1, hU2⟩, hs'⟩ := hcut
      have S5 := Lib.hid hs'
      clear hs' S2 HU u1 u2
      go_upto_block 2 with fail
      go_cut [11] from 46 to 62 (fun j wx => j = .int .i64 (V : Int) ∧ (V ≤ z ∧ U ≤ V + 1) ∧ St w wx g n d2)
      case first =>
        go_wp2_with fail
        go_loopw [11] (fun j wr => ∃ (m2 : Nat), j = .int .i64 (m2 : Int) ∧ m2 ≤ z ∧ U ≤ m2 + 1 ∧ St w wr g n d2 ∧ Go.Sort.scanDown (fun x => !lt x d2[a]!) d2 U m2 = V) (fun j _ => (intOf j).toNat)
        case atStart => exact ⟨z, rfl, Nat.le_refl _, hU2, S5.out, HV.out⟩
        case round =>
          obtain ⟨m2, rfl, hm2, hm3, hs', hv'⟩ := hrel
          have S6 := Lib.hid hs'
          have HV4 := Lib.hid hv'
          clear hs' hv' S5 HV
          by_cases hle : U ≤ m2
          · have m2n : m2 < n := by omega
            have j1 : (0 : Int) ≤ (m2 : Int) := by omega
            have j2 : (m2 : Int) < (n : Int) := by omega
            have e1 : decide (U ≤ m2) = true := decide_eq_true hle
            have c1 := S6.out.cell an
            have c2 := S6.out.cell m2n
            have LS := Lib.hid (fun W => less_any (d2[m2]!) (d2[a]!) W)
            obtain ⟨m3, hm4⟩ : ∃ m3, m3 = m2 - 1 := ⟨_, rfl⟩
            have u3 : IntKind.i64.wrap ((m2 : Int) - 1) = (m3 : Int) := by rw [w64 (by omega)]; omega
            have B := Lib.hid (show m3 ≤ z ∧ U ≤ m3 + 1 ∧ m3 < m2 by omega)
            cases hl : lt d2[m2]! d2[a]!
            · have HV2 := Lib.hid (show Go.Sort.scanDown (fun x => !lt x d2[a]!) d2 U m3 = V by rw [hm4]; exact (down_go (p := fun x => !lt x d2[a]!) hle (by omega) (by simp [hl])).symm.trans HV4.out)
              rw [hl] at LS
              clear hl hm4
              go_upto_region 5 with fail
              go_quiet ((go_at_call 89; exact Calls.quiet_of_same (LS.out _)))
              go_wp2_with fail
              go_roundw
              case rel => exact ⟨m3, rfl, B.out.1, B.out.2.1, S6.out.later (drewN_below _ _), HV2.out⟩
              case measure => have := B.out; simp [intOf]; omega
            · have HE := Lib.hid (show m2 = V from (down_end (p := fun x => !lt x d2[a]!) (.inr (by simp [hl]))).symm.trans HV4.out)
              rw [hl] at LS
              clear hl hm4 u3 B
              go_upto_region 5 with fail
              go_quiet ((go_at_call 89; exact Calls.quiet_of_same (LS.out _)))
              go_wp2_with fail
              go_meet
              exact ⟨by rw [HE.out], ⟨by have := HE.out; omega, by have := HE.out; omega⟩, S6.out.later (drewN_below _ _)⟩
          · have HE := Lib.hid (show m2 = V from (down_end (p := fun x => !lt x d2[a]!) (.inl hle)).symm.trans HV4.out)
            have e1 : decide (U ≤ m2) = false := decide_eq_false hle
            go_upto_region 5 with fail
            go_quiet (fail)
            go_wp2_with fail
            go_meet
            exact ⟨by rw [HE.out], ⟨by have := HE.out; omega, by have := HE.out; omega⟩, S6.out.later (drewN_below _ _)⟩
      case rest =>
        obtain ⟨rfl, ⟨hV1, hV2⟩, hs'⟩ := hcut
        have S7 := Lib.hid hs'
        clear hs' S5 HV
        have Vn : V < n := by omega
        have q1 : (0 : Int) ≤ (V : Int) := by omega
        have q2 : (V : Int) < (n : Int) := by omega
        by_cases hUV : V < U
        · have e3 : decide (V < U) = true := decide_eq_true hUV
          have F := Lib.hid (HR.out.trans (if_pos hUV))
          clear HR
          go_upto_region 8 with fail
          have c1 := S7.out.cell Vn
          have c2 := S7.out.cell an
          have z1 := S7.out.hs.free V
          have z2 := S7.out.hs.free a
          have S8 := Lib.hid (S7.out.swp Vn an)
          obtain ⟨v3, c3⟩ : ∃ v, (wc.setCell ⟨g, V, none⟩ (.int .u32 (d2[a]! : Int))).cell? ⟨g, a, none⟩ = some v := ⟨_, (S7.out.set Vn _).cell an⟩
          generalize hx1 : d2[a]! = x1 at *
          generalize hx2 : d2[V]! = x2 at *
          clear S7
          go_region
          all_goals
            go_wp2_with fail
            go_ret2
            rw [F.out]
            exact ⟨rfl, S8.out.later (Below.refl _ _).drew⟩
        · have e3 : decide (V < U) = false := decide_eq_false hUV
          have F := Lib.hid (HR.out.trans (if_neg hUV))
          clear HR
          have Un : U < n := by omega
          have q3 : (0 : Int) ≤ (U : Int) := by omega
          have q4 : (U : Int) < (n : Int) := by omega
          obtain ⟨V1, hV3⟩ : ∃ V1, V1 = V - 1 := ⟨_, rfl⟩
          have u3 : IntKind.i64.wrap ((V : Int) - 1) = (V1 : Int) := by rw [w64 (by omega)]; omega
          have u4 : IntKind.i64.wrap ((U : Int) + 1) = ((U + 1 : Nat) : Int) := by rw [w64 (by omega)]; omega
          obtain ⟨X, hX⟩ : ∃ X, X = Go.Sort.partLoop lt a (U + 1) V1 (Go.Sort.swp d2 U V) := ⟨_, rfl⟩
          rw [← hV3, ← hX] at F
          have T0 := Lib.hid hX.symm
          have BB := Lib.hid (show V1 < n ∧ U + 1 ≤ V1 + 2 ∧ a1 < U + 1 by omega)
          clear hX hV3
          go_upto_region 10 with fail
          have c1 := S7.out.cell Un
          have c2 := S7.out.cell Vn
          have z1 := S7.out.hs.free U
          have z2 := S7.out.hs.free V
          have S8 := Lib.hid (S7.out.swp Un Vn)
          obtain ⟨v3, c3⟩ : ∃ v, (wc.setCell ⟨g, U, none⟩ (.int .u32 (d2[V]! : Int))).cell? ⟨g, V, none⟩ = some v := ⟨_, (S7.out.set Un _).cell Vn⟩
          generalize hx1 : d2[U]! = x1 at *
          generalize hx2 : d2[V]! = x2 at *
          clear S7
          go_region
          all_goals
            have S9 := Lib.hid (S8.out.later (Below.refl _ _).drew)
            clear c1 c2 c3 z1 z2 S8
            go_upto_region 11 with fail
            generalize (World.setCell _ _ _).drew = w3 at *
            clear hx1 hx2
            generalize Go.Sort.swp d2 U V = d3 at *
            go_wp2_with fail
            clear u3 u4 q1 q2 q3 q4 e3 Un Vn hV1 hV2 hU1 hU2 hUV
            go_loopw [10, 11] (fun i j wr => ∃ (k m : Nat) (e : Array Nat), i = .int .i64 (k : Int) ∧ j = .int .i64 (m : Int) ∧ a1 < k ∧ k ≤ m + 2 ∧ m < n ∧ St w wr g n e ∧ Go.Sort.partLoop lt a k m e = X) (fun i j _ => (intOf j + 1 - intOf i).toNat)
            case atStart => exact ⟨U + 1, V1, d3, by go_num, rfl, BB.out.2.2, BB.out.2.1, BB.out.1, S9.out, T0.out⟩
            case round =>
              obtain ⟨k, m, e, rfl, rfl, hak, hkm, hm, hs', ht'⟩ := hrel
              have S10 := Lib.hid hs'
              obtain ⟨Y, hY⟩ : ∃ Y, Y = Go.Sort.scanUp (fun x => lt x e[a]!) e m k := ⟨_, rfl⟩
              obtain ⟨Z, hZ⟩ : ∃ Z, Z = Go.Sort.scanDown (fun x => !lt x e[a]!) e Y m := ⟨_, rfl⟩
              have T3 := Lib.hid ((Go.Sort.partLoop_eq lt a k m e).symm.trans ht')
              rw [← hY, ← hZ] at T3
              have HU := Lib.hid hY.symm
              have HV := Lib.hid hZ.symm
              clear hs' ht' T0 S9 hY hZ BB
              go_upto_block 6 with fail
              go_cut [10] from 99 to 114 (fun i wx => i = .int .i64 (Y : Int) ∧ (k ≤ Y ∧ Y ≤ m + 2) ∧ St w wx g n e)
              case first =>
                go_wp2_with fail
                go_loopw [10] (fun i wr => ∃ (k2 : Nat), i = .int .i64 (k2 : Int) ∧ k ≤ k2 ∧ k2 ≤ m + 2 ∧ St w wr g n e ∧ Go.Sort.scanUp (fun x => lt x e[a]!) e m k2 = Y) (fun i _ => (m + 1 - (intOf i).toNat))
                case atStart => exact ⟨k, rfl, Nat.le_refl _, hkm, S10.out, HU.out⟩
                case round =>
                  obtain ⟨k2, rfl, hk2, hk3, hs', hu'⟩ := hrel
                  have S4 := Lib.hid hs'
                  have HU4 := Lib.hid hu'
                  clear hs' hu' S10 HU
                  by_cases hle : k2 ≤ m
                  · have k2n : k2 < n := by omega
                    have j1 : (0 : Int) ≤ (k2 : Int) := by omega
                    have j2 : (k2 : Int) < (n : Int) := by omega
                    have e1 : decide (k2 ≤ m) = true := decide_eq_true hle
                    have c1 := S4.out.cell an
                    have c2 := S4.out.cell k2n
                    have LS := Lib.hid (fun W => less_any (e[k2]!) (e[a]!) W)
                    cases hl : lt e[k2]! e[a]!
                    · have HE := Lib.hid (show k2 = Y from (up_end (p := fun x => lt x e[a]!) (.inr hl)).symm.trans HU4.out)
                      rw [hl] at LS
                      clear hl
                      go_upto_region 13 with fail
                      go_quiet ((go_at_call 89; exact Calls.quiet_of_same (LS.out _)))
                      go_wp2_with fail
                      go_meet
                      exact ⟨by rw [HE.out], ⟨by have := HE.out; omega, by have := HE.out; omega⟩, S4.out.later (drewN_below _ _)⟩
                    · have HU2 := Lib.hid (show Go.Sort.scanUp (fun x => lt x e[a]!) e m (k2 + 1) = Y from (up_go (p := fun x => lt x e[a]!) hle hl).symm.trans HU4.out)
                      rw [hl] at LS
                      clear hl
                      have u9 : IntKind.i64.wrap ((k2 : Int) + 1) = ((k2 + 1 : Nat) : Int) := by rw [w64 (by omega)]; omega
                      go_upto_region 13 with fail
                      go_quiet ((go_at_call 89; exact Calls.quiet_of_same (LS.out _)))
                      go_wp2_with fail
                      go_roundw
                      case rel => exact ⟨k2 + 1, by go_num, by omega, by omega, S4.out.later (drewN_below _ _), HU2.out⟩
                      case measure => simp [intOf]; omega
                  · have HE := Lib.hid (show k2 = Y from (up_end (p := fun x => lt x e[a]!) (.inl hle)).symm.trans HU4.out)
                    have e1 : decide (k2 ≤ m) = false := decide_eq_false hle
                    go_upto_region 13 with fail
                    go_quiet (fail)
                    go_wp2_with fail
                    go_meet
                    exact ⟨by rw [HE.out], ⟨by have := HE.out; omega, by have := HE.out; omega⟩, S4.out.later (drewN_below _ _)⟩
              case rest =>
                obtain ⟨rfl, ⟨hU1, hU2⟩, hs'⟩ := hcut
                have S5 := Lib.hid hs'
                clear hs' S10 HU
                go_upto_block 8 with fail
                go_cut [11] from 115 to 131 (fun j wx => j = .int .i64 (Z : Int) ∧ (Z ≤ m ∧ Y ≤ Z + 2) ∧ St w wx g n e)
                case first =>
                  go_wp2_with fail
                  go_loopw [11] (fun j wr => ∃ (m2 : Nat), j = .int .i64 (m2 : Int) ∧ m2 ≤ m ∧ Y ≤ m2 + 2 ∧ St w wr g n e ∧ Go.Sort.scanDown (fun x => !lt x e[a]!) e Y m2 = Z) (fun j _ => (intOf j).toNat)
                  case atStart => exact ⟨m, rfl, Nat.le_refl _, hU2, S5.out, HV.out⟩
                  case round =>
                    obtain ⟨m2, rfl, hm2, hm3, hs', hv'⟩ := hrel
                    have S6 := Lib.hid hs'
                    have HV4 := Lib.hid hv'
                    clear hs' hv' S5 HV
                    by_cases hle : Y ≤ m2
                    · have m2n : m2 < n := by omega
                      have j1 : (0 : Int) ≤ (m2 : Int) := by omega
                      have j2 : (m2 : Int) < (n : Int) := by omega
                      have e1 : decide (Y ≤ m2) = true := decide_eq_true hle
                      have c1 := S6.out.cell an
                      have c2 := S6.out.cell m2n
                      have LS := Lib.hid (fun W => less_any (e[m2]!) (e[a]!) W)
                      obtain ⟨m3, hm4⟩ : ∃ m3, m3 = m2 - 1 := ⟨_, rfl⟩
                      have u3 : IntKind.i64.wrap ((m2 : Int) - 1) = (m3 : Int) := by rw [w64 (by omega)]; omega
                      have B := Lib.hid (show m3 ≤ m ∧ Y ≤ m3 + 2 ∧ m3 < m2 by omega)
                      cases hl : lt e[m2]! e[a]!
                      · have HV2 := Lib.hid (show Go.Sort.scanDown (fun x => !lt x e[a]!) e Y m3 = Z by rw [hm4]; exact (down_go (p := fun x => !lt x e[a]!) hle (by omega) (by simp [hl])).symm.trans HV4.out)
                        rw [hl] at LS
                        clear hl hm4
                        go_upto_region 15 with fail
                        go_quiet ((go_at_call 89; exact Calls.quiet_of_same (LS.out _)))
                        go_wp2_with fail
                        go_roundw
                        case rel => exact ⟨m3, rfl, B.out.1, B.out.2.1, S6.out.later (drewN_below _ _), HV2.out⟩
                        case measure => have := B.out; simp [intOf]; omega
                      · have HE := Lib.hid (show m2 = Z from (down_end (p := fun x => !lt x e[a]!) (.inr (by simp [hl]))).symm.trans HV4.out)
                        rw [hl] at LS
                        clear hl hm4 u3 B
                        go_upto_region 15 with fail
                        go_quiet ((go_at_call 89; exact Calls.quiet_of_same (LS.out _)))
                        go_wp2_with fail
                        go_meet
                        exact ⟨by rw [HE.out], ⟨by have := HE.out; omega, by have := HE.out; omega⟩, S6.out.later (drewN_below _ _)⟩
                    · have HE := Lib.hid (show m2 = Z from (down_end (p := fun x => !lt x e[a]!) (.inl hle)).symm.trans HV4.out)
                      have e1 : decide (Y ≤ m2) = false := decide_eq_false hle
                      go_upto_region 15 with fail
                      go_quiet (fail)
                      go_wp2_with fail
                      go_meet
                      exact ⟨by rw [HE.out], ⟨by have := HE.out; omega, by have := HE.out; omega⟩, S6.out.later (drewN_below _ _)⟩
                case rest =>
                  obtain ⟨rfl, ⟨hV1, hV2⟩, hs'⟩ := hcut
                  have S7 := Lib.hid hs'
                  clear hs' S5 HV
                  have Zn : Z < n := by omega
                  have q1 : (0 : Int) ≤ (Z : Int) := by omega
                  have q2 : (Z : Int) < (n : Int) := by omega
                  by_cases hUV : Z < Y
                  · have e3 : decide (Z < Y) = true := decide_eq_true hUV
                    have E := T3.out
                    rw [if_pos hUV] at E
                    subst E
                    clear T3
                    go_upto_region 21 with fail
                    have c1 := S7.out.cell Zn
                    have c2 := S7.out.cell an
                    have z1 := S7.out.hs.free Z
                    have z2 := S7.out.hs.free a
                    have S8 := Lib.hid (S7.out.swp Zn an)
                    obtain ⟨v3, c3⟩ : ∃ v, (wc.setCell ⟨g, Z, none⟩ (.int .u32 (e[a]! : Int))).cell? ⟨g, a, none⟩ = some v := ⟨_, (S7.out.set Zn _).cell an⟩
                    generalize hx1 : e[a]! = x1 at *
                    generalize hx2 : e[Z]! = x2 at *
                    clear S7
                    go_region
                    all_goals
                      go_wp2_with fail
                      go_ret2
                      rw [F.out]
                      exact ⟨rfl, S8.out.later (Below.refl _ _).drew⟩
                  · have e3 : decide (Z < Y) = false := decide_eq_false hUV
                    have T5 := T3.out
                    rw [if_neg hUV] at T5
                    have Yn : Y < n := by omega
                    have q3 : (0 : Int) ≤ (Y : Int) := by omega
                    have q4 : (Y : Int) < (n : Int) := by omega
                    obtain ⟨Z1, hZ1⟩ : ∃ Z1, Z1 = Z - 1 := ⟨_, rfl⟩
                    rw [← hZ1] at T5
                    have T6 := Lib.hid T5
                    have u3 : IntKind.i64.wrap ((Z : Int) - 1) = (Z1 : Int) := by rw [w64 (by omega)]; omega
                    have u4 : IntKind.i64.wrap ((Y : Int) + 1) = ((Y + 1 : Nat) : Int) := by rw [w64 (by omega)]; omega
                    have BB := Lib.hid (show a1 < Y + 1 ∧ Y + 1 ≤ Z1 + 2 ∧ Z1 < n ∧ (Z1 + 1 - (Y + 1) : Int) < (m : Int) + 1 - (k : Int) ∧ 0 < (m : Int) + 1 - (k : Int) by omega)
                    clear T3 T5 hZ1
                    go_upto_region 18 with fail
                    have c1 := S7.out.cell Yn
                    have c2 := S7.out.cell Zn
                    have z1 := S7.out.hs.free Y
                    have z2 := S7.out.hs.free Z
                    have S8 := Lib.hid (S7.out.swp Yn Zn)
                    obtain ⟨v3, c3⟩ : ∃ v, (wc.setCell ⟨g, Y, none⟩ (.int .u32 (e[Z]! : Int))).cell? ⟨g, Z, none⟩ = some v := ⟨_, (S7.out.set Yn _).cell Zn⟩
                    generalize hx1 : e[Y]! = x1 at *
                    generalize hx2 : e[Z]! = x2 at *
                    clear S7
                    go_region
                    all_goals
                      go_wp2_with fail
                      exact ⟨⟨Y + 1, Z1, _, by go_num, rfl, BB.out.1, BB.out.2.1, BB.out.2.2.1, S8.out.later (Below.refl _ _).drew, T6.out⟩, by have := BB.out; simp [intOf]; omega⟩

end Go.Proofs.Ytfcibccipkokoaa.Qs

namespace Go.Proofs.Ytfcibccipkokoaa.Qs
open Go.RowKit
attribute [local go_sem ↓] Go.wp_at_zero Go.wp_at_succ

/-- the generator's box -/
def Rn (W : World) (rb X : Nat) : Prop := W.heap[rb]? = some (.cells #[.int .u64 (X : Int)] 164 (0, 0))
theorem Rn.cell {W : World} {rb X : Nat} (h : Rn W rb X) : W.cell? ⟨rb, 0, none⟩ = some (.int .u64 (X : Int)) := by rw [cell_of_row _ _ _ _ _ _ h]; rfl
theorem Rn.free {W : World} {rb X : Nat} (h : Rn W rb X) (j : Nat) : W.frozen? ⟨rb, j, none⟩ = false := frozen_of_row _ _ _ _ _ h
theorem Rn.set {W : World} {rb X : Nat} (h : Rn W rb X) (Y : Nat) : Rn (W.setCell ⟨rb, 0, none⟩ (.int .u64 (Y : Int))) rb Y := by
  unfold Rn
  rw [heap_setCell_same _ _ _ _ _ _ h]
  rfl
theorem Rn.lt {W : World} {rb X : Nat} (h : Rn W rb X) : rb < W.heap.size := (Array.getElem?_eq_some_iff.1 h).1
theorem Rn.later {W W' : World} {rb X : Nat} (h : Rn W rb X) (b : Below W.heap.size W W') : Rn W' rb X := (b.block _ h.lt).trans h

set_option maxRecDepth 100000 in
set_option maxHeartbeats 2000000 in
theorem next_any {rb X : Nat} (hX : X < 18446744073709551616) {w : World} (hb : Rn w rb X) :
    Calls Try.prog 123 #[.pointer (some ⟨rb, 0, none⟩)] w fun e w' => e = .returned (.int .u64 ((Go.Sort.xorNextN X : Nat) : Int)) ∧ Rn w' rb (Go.Sort.xorNextN X) ∧ Touch (fun x => x = rb) w w' := by
  obtain ⟨A, hA⟩ : ∃ A : Nat, A = X ^^^ (X * 8192 % 18446744073709551616) := ⟨_, rfl⟩
  obtain ⟨B, hB⟩ : ∃ B : Nat, B = A ^^^ (A / 128) := ⟨_, rfl⟩
  obtain ⟨C, hC⟩ : ∃ C : Nat, C = B ^^^ (B * 131072 % 18446744073709551616) := ⟨_, rfl⟩
  have lA : A < 18446744073709551616 := by rw [hA]; exact Nat.xor_lt_two_pow (n := 64) (by omega) (by omega)
  have lB : B < 18446744073709551616 := by rw [hB]; exact Nat.xor_lt_two_pow (n := 64) (by omega) (by omega)
  have e1 : bits .xor .u64 (X : Int) (IntKind.u64.wrap ((X : Int) * 8192)) = (A : Int) := by
    rw [IntKind.wrap_u64, show ((X : Int) * 8192 % 18446744073709551616) = ((X * 8192 % 18446744073709551616 : Nat) : Int) by omega, u64_xor_nat _ _ hX (by omega), hA]
  have e2 : bits .xor .u64 (A : Int) ((A : Int) / 128) = (B : Int) := by
    rw [show ((A : Int) / 128) = ((A / 128 : Nat) : Int) by omega, u64_xor_nat _ _ lA (by omega), hB]
  have e3 : bits .xor .u64 (B : Int) (IntKind.u64.wrap ((B : Int) * 131072)) = (C : Int) := by
    rw [IntKind.wrap_u64, show ((B : Int) * 131072 % 18446744073709551616) = ((B * 131072 % 18446744073709551616 : Nat) : Int) by omega, u64_xor_nat _ _ lB (by omega), hC]
  have hv : Go.Sort.xorNextN X = C := by unfold Go.Sort.xorNextN; simp only []; rw [← hA, ← hB, ← hC]
  rw [hv]
  clear hA hB hC hv lA lB hX
  have c1 := hb.cell
  have f1 := hb.free 0
  have R1 := Lib.hid (hb.set A)
  have T1 := Lib.hid (Touch.setCell (F := fun x => x = rb) (Touch.refl _ w) (x := ⟨rb, 0, none⟩) rfl (.int .u64 (A : Int)))
  clear hb
  go_enter Try.func123, Try.ntmps123
  go_upto_region 1 with fail
  go_region
  all_goals
    have R2 := Lib.hid (R1.out.later (Below.refl _ _).drew)
    have T2 := Lib.hid (T1.out.trans' (Touch.ofNew (Below.refl _ _).drew))
    clear c1 f1 R1 T1 e1
    go_upto_region 2 with fail
    generalize (World.setCell _ _ _).drew = w2 at *
    have c1 := R2.out.cell
    have f1 := R2.out.free 0
    have R3 := Lib.hid (R2.out.set B)
    have T3 := Lib.hid (Touch.setCell (F := fun x => x = rb) T2.out (x := ⟨rb, 0, none⟩) rfl (.int .u64 (B : Int)))
    clear R2 T2
    go_region
    all_goals
      have R4 := Lib.hid (R3.out.later (Below.refl _ _).drew)
      have T4 := Lib.hid (T3.out.trans' (Touch.ofNew (Below.refl _ _).drew))
      clear c1 f1 R3 T3 e2
      go_upto_region 3 with fail
      generalize (World.setCell _ _ _).drew = w3 at *
      have c1 := R4.out.cell
      have f1 := R4.out.free 0
      have R5 := Lib.hid (R4.out.set C)
      have T5 := Lib.hid (Touch.setCell (F := fun x => x = rb) T4.out (x := ⟨rb, 0, none⟩) rfl (.int .u64 (C : Int)))
      clear R4 T4
      go_region
      all_goals
        have R6 := Lib.hid (R5.out.later (Below.refl _ _).drew)
        have T6 := Lib.hid (T5.out.trans' (Touch.ofNew (Below.refl _ _).drew))
        clear c1 f1 R5 T5 e3
        go_upto_region 4 with fail
        generalize (World.setCell _ _ _).drew = w4 at *
        have c1 := R6.out.cell
        go_wp2_with fail
        go_ret
        exact ⟨rfl, R6.out, T6.out⟩

theorem two_pow (k : Nat) (hk : k ≤ 62) : IntKind.u64.wrap ((2 : Int) ^ k) = ((1 <<< k : Nat) : Int) := by
  have h : (2 : Nat) ^ k ≤ 2 ^ 62 := Nat.pow_le_pow_right (by decide) hk
  rw [IntKind.wrap_u64, Nat.one_shiftLeft, show ((2 : Int) ^ k) = ((2 ^ k : Nat) : Int) by push_cast; rfl]
  generalize (2 : Nat) ^ k = p at h
  omega
theorem len_eq : ∀ (n x : Nat), x < 2 ^ n → n ≤ 64 → Lib.bitLen x = Go.Sort.bitsLen x
  | 0, x, h, _ => by
    obtain rfl : x = 0 := by simpa using h
    rfl
  | n + 1, x, h, hn => by
    by_cases h0 : x = 0
    · subst h0; rfl
    · have h64 : x < 2 ^ 64 := Nat.lt_of_lt_of_le h (Nat.pow_le_pow_right (by decide) hn)
      rw [Lib.bitLen_half x h0 h64, len_eq n (x / 2) (by rw [Nat.pow_succ] at h; omega) (by omega)]
      have p1 : Go.Sort.bitsLen x ≤ 1 + Go.Sort.bitsLen (x / 2) := (Go.Sort.bitsLen_le_iff x _).2 (by
        have := Go.Sort.lt_two_pow_bitsLen (x / 2)
        rw [Nat.add_comm, Nat.pow_succ]
        omega)
      have p0 : 0 < Go.Sort.bitsLen x := by
        rcases Nat.eq_zero_or_pos (Go.Sort.bitsLen x) with e | e
        · have := (Go.Sort.bitsLen_le_iff x 0).1 (by omega)
          simp at this
          omega
        · exact e
      have p2 : Go.Sort.bitsLen (x / 2) ≤ Go.Sort.bitsLen x - 1 := (Go.Sort.bitsLen_le_iff _ _).2 (by
        have := Go.Sort.lt_two_pow_bitsLen x
        obtain ⟨k, hk⟩ : ∃ k, Go.Sort.bitsLen x = k + 1 := ⟨Go.Sort.bitsLen x - 1, by omega⟩
        rw [hk] at this ⊢
        rw [Nat.pow_succ] at this
        rw [Nat.add_sub_cancel]
        omega)
      omega
set_option maxRecDepth 100000 in
theorem power_any (l : Nat) (hl : l ≤ 1000000) (w : World) : Calls Try.prog 122 #[.int .i64 (l : Int)] w fun e w' => e = .returned (.int .u64 ((1 <<< Go.Sort.bitsLen l : Nat) : Int)) ∧ w = w' := by
  have h := Try.bits_Len (l : Int) w (by omega) (by omega)
  rw [Int.toNat_natCast, len_eq 20 l (by omega) (by omega)] at h
  have hk : Go.Sort.bitsLen l ≤ 62 := (Go.Sort.bitsLen_le_iff l 62).2 (by omega)
  have hp := two_pow (Go.Sort.bitsLen l) hk
  have u : IntKind.u64.wrap (l : Int) = (l : Int) := by rw [IntKind.wrap_u64]; omega
  have K := Lib.hid h
  clear h
  go_enter Try.func122, Try.ntmps122
  go_wp2_with fail
  refine K.out.mono ?_
  rintro e w' ⟨rfl, rfl⟩
  go_wp2_with fail
  go_ret
  exact ⟨rfl, rfl⟩

/-- so many rounds are left; each turns two numbers -/
def bk (a l M : Nat) : Nat → Nat → UInt64 × Array Nat → Array Nat
  | _, 0, st => st.2
  | x, k + 1, st => bk a l M (x + 1) k (Go.Sort.breakStep a l M st x)
theorem Rn.aside {W : World} {rb X g i j : Nat} {u v : Value} (h : Rn W rb X) (n1 : rb ≠ g) (n2 : rb ≠ g) : Rn ((W.setCell ⟨g, i, none⟩ u).setCell ⟨g, j, none⟩ v) rb X := by
  unfold Rn
  rw [heap_setCell_other _ _ _ _ n2, heap_setCell_other _ _ _ _ n1]
  exact h
theorem brk_eq {d : Array Nat} {a b : Nat} (h : 8 ≤ b - a) : Go.Sort.breakPatterns d a b = bk a (b - a) (1 <<< Go.Sort.bitsLen (b - a)) (a + (b - a) / 4 * 2 - 1) 3 (UInt64.ofNat (b - a), d) := by
  unfold Go.Sort.breakPatterns
  simp only []
  rw [if_pos h]
  rfl
theorem St.aside {w W : World} {g n : Nat} {d : Array Nat} (S : St w W g n d) {rb : Nat} {W' : World} (hr : w.heap.size ≤ rb) (hlt : rb < W.heap.size) (hne : rb ≠ g) (T : Touch (fun x => x = rb) W W') : St w W' g n d := by
  have hg : W'.heap[g]? = W.heap[g]? := by
    obtain ⟨cs, h1, _⟩ := S.hs.row
    exact T.block g (Array.getElem?_eq_some_iff.1 h1).1 (fun e => hne e.symm)
  obtain ⟨cs, h1, h2⟩ := S.hs.row
  exact ⟨⟨cs, hg.trans h1, h2⟩, ⟨T.os.trans S.t.os, T.tape.trans S.t.tape, T.output.trans S.t.output, Nat.le_trans S.t.size T.size, fun x hx hn => (T.block x (Nat.lt_of_lt_of_le hx S.t.size) (fun e => by omega)).trans (S.t.block x hx hn)⟩, S.sz⟩

set_option maxRecDepth 100000 in
set_option maxHeartbeats 4000000 in
theorem break_any {w : World} {g n c a b : Nat} {d : Array Nat} (h : Hs w g d) (hn : d.size = n) (hab : a ≤ b) (hb : b ≤ n) (hs : n ≤ 1000000) :
    Calls Try.prog 85 #[.slice (some ⟨g, 0, none⟩) n c, .int .i64 (a : Int), .int .i64 (b : Int)] w (Sp w g n (Go.Sort.breakPatterns d a b)) := by
  obtain ⟨l, hl⟩ : ∃ l, l = b - a := ⟨_, rfl⟩
  have u1 : IntKind.i64.wrap ((b : Int) - (a : Int)) = (l : Int) := by rw [w64 (by omega)]; omega
  have S0 := Lib.hid (show St w w g n d from ⟨h, Touch.refl _ _, hn⟩)
  by_cases h8 : 8 ≤ l
  · have hR := brk_eq (d := d) (a := a) (b := b) (by omega)
    obtain ⟨R, hRR⟩ : ∃ R, R = Go.Sort.breakPatterns d a b := ⟨_, rfl⟩
    rw [← hRR] at hR ⊢
    rw [← hl] at hR
    obtain ⟨q, hq⟩ : ∃ q, q = l / 4 := ⟨_, rfl⟩
    obtain ⟨M, hM⟩ : ∃ M : Nat, M = 1 <<< Go.Sort.bitsLen l := ⟨_, rfl⟩
    have hM1 : 1 ≤ M := by rw [hM, Nat.one_shiftLeft]; exact Nat.two_pow_pos _
    have hM2 : M ≤ 2 * l := by rw [hM, Nat.one_shiftLeft]; exact Go.Sort.two_pow_bitsLen_le (by omega)
    have KP := Lib.hid (fun W => power_any l (by omega) W)
    rw [← hM] at KP hR
    rw [← hq] at hR
    obtain ⟨i0, hi0⟩ : ∃ i, i = a + q * 2 - 1 := ⟨_, rfl⟩
    rw [← hi0] at hR
    have u2 : (l : Int).tdiv 4 = (q : Int) := by rw [Int.tdiv_eq_ediv_of_nonneg (by omega)]; omega
    have u3 : IntKind.i64.wrap ((q : Int) * 2) = (q : Int) * 2 := w64 (by omega)
    have u3' : IntKind.i64.wrap (q : Int) = (q : Int) := w64 (by omega)
    have u4 : IntKind.i64.wrap ((a : Int) + (q : Int) * 2) = (a : Int) + (q : Int) * 2 := w64 (by omega)
    have u5 : IntKind.i64.wrap ((a : Int) + (q : Int) * 2 - 1) = (i0 : Int) := by rw [w64 (by omega)]; omega
    obtain ⟨i2, hi2⟩ : ∃ i2, i2 = i0 + 2 := ⟨_, rfl⟩
    have u6 : IntKind.i64.wrap ((a : Int) + (q : Int) * 2 + 1) = (i2 : Int) := by rw [w64 (by omega)]; omega
    have I2 := Lib.hid hi2
    obtain ⟨M1, hM1'⟩ : ∃ M1, M1 = M - 1 := ⟨_, rfl⟩
    have u8 : IntKind.u64.wrap ((M : Int) - 1) = (M1 : Int) := by rw [IntKind.wrap_u64]; omega
    have HM1 := Lib.hid hM1'
    have u7 : IntKind.u64.wrap (l : Int) = (l : Int) := by rw [IntKind.wrap_u64]; omega
    have bi : i0 + 2 < a + l ∧ a + l ≤ n ∧ a ≤ i0 := by omega
    have hlu : (UInt64.ofNat l).toNat = l := by simp; omega
    have e8 : decide ((8 : Int) ≤ (l : Int)) = true := decide_eq_true (by omega)
    have BI := Lib.hid bi
    have RR := Lib.hid hR.symm
    have MM := Lib.hid (And.intro hM1 hM2)
    have HLU := Lib.hid hlu
    clear hM1' hi2 hR hRR hq hM hi0 h hn hb hab bi hM1 hM2 hlu hl
    go_enter Try.func85, Try.ntmps85
    go_upto_region 3 with fail
    have SA := Lib.hid (S0.out.later (below_new w (.cells #[.int .u64 (l : Int)] 164)))
    have RA := Lib.hid (show Rn (w.alloc (.cells #[.int .u64 (l : Int)] 164)) w.heap.size (UInt64.ofNat l).toNat by unfold Rn; rw [heap_alloc_new, HLU.out])
    have hgr : g < w.heap.size := by
      obtain ⟨cs, h1, _⟩ := S0.out.hs.row
      exact (Array.getElem?_eq_some_iff.1 h1).1
    obtain ⟨rb, hrb⟩ : ∃ rb, rb = w.heap.size := ⟨_, rfl⟩
    rw [← hrb] at RA hgr
    simp only [← hrb]
    generalize w.alloc (.cells #[.int .u64 (l : Int)] 164) = w1 at *
    have HRB := Lib.hid (show w.heap.size ≤ rb from Nat.le_of_eq hrb.symm)
    clear hrb S0
    go_wp2_with fail
    refine (KP.out _).mono ?_
    rintro e w' ⟨rfl, rfl⟩
    go_wp2_with fail
    go_loopw [9] (fun i wr => ∃ (k x : Nat) (r : UInt64) (e : Array Nat), x + k = i2 + 1 ∧ i0 ≤ x ∧ i = .int .i64 (x : Int) ∧ St w wr g n e ∧ Rn wr rb r.toNat ∧ bk a l M x k (r, e) = R) (fun i _ => (i2 + 1 - (intOf i).toNat))
    case atStart => exact ⟨3, i0, UInt64.ofNat l, d, by have := I2.out; omega, Nat.le_refl _, rfl, SA.out, RA.out, RR.out⟩
    case round =>
      obtain ⟨k, x, r, e, hx, hx0, rfl, hs', hr', hb'⟩ := hrel
      have S1 := Lib.hid hs'
      rcases k with _ | k
      · have e1 : decide (x ≤ i2) = false := decide_eq_false (by omega)
        have E : e = R := hb'
        clear hb' hs' hr' RR SA RA hx
        subst E
        go_wp2_with fail
        go_end0
        exact ⟨rfl, S1.out⟩
      · have e1 : decide (x ≤ i2) = true := decide_eq_true (by omega)
        obtain ⟨X, hX⟩ : ∃ X : Nat, X = Go.Sort.xorNextN r.toNat := ⟨_, rfl⟩
        have lX : X < 18446744073709551616 := by rw [hX]; exact Go.Sort.xorNextN_lt _ r.toNat_lt
        obtain ⟨O, hO⟩ : ∃ O : Nat, O = X &&& (M - 1) := ⟨_, rfl⟩
        have lO : O ≤ M - 1 := by rw [hO]; exact Nat.and_le_right
        have lO2 : O < 2 * l := by have := MM.out; omega
        have eAnd : bits .and .u64 (X : Int) (M1 : Int) = (O : Int) := by
          rw [HM1.out, bits_and_u64_nat _ _ lX (by have := MM.out; have := BI.out; omega), hO]
        have eC : IntKind.i64.wrap (O : Int) = (O : Int) := w64 (by have := BI.out; omega)
        have eX : X = (Go.Sort.xorNext r).toNat := by rw [hX, Go.Sort.xorNext_toNat]
        obtain ⟨o, ho⟩ : ∃ o, o = if O ≥ l then O - l else O := ⟨_, rfl⟩
        have lo : o < l := by rw [ho]; split <;> omega
        obtain ⟨p, hp⟩ : ∃ p, p = a + o := ⟨_, rfl⟩
        have u9 : IntKind.i64.wrap ((a : Int) + (o : Int)) = (p : Int) := by rw [w64 (by have := BI.out; omega)]; omega
        have u10 : IntKind.i64.wrap ((x : Int) + 1) = ((x + 1 : Nat) : Int) := by rw [w64 (by have := I2.out; have := BI.out; omega)]; omega
        have hT : bk a l M (x + 1) k (Go.Sort.xorNext r, Go.Sort.swp e x p) = R := by
          rw [← hb']
          show _ = bk a l M (x + 1) k (Go.Sort.breakStep a l M (r, e) x)
          unfold Go.Sort.breakStep
          simp only [← eX, ← hO, ← ho, ← hp]
        have T1 := Lib.hid hT
        have RX := Lib.hid eX
        have KN := Lib.hid (next_any r.toNat_lt hr')
        rw [← hX] at KN
        have xn : x < n := by have := BI.out; have := I2.out; omega
        have pn : p < n := by have := BI.out; omega
        have q1 : (0 : Int) ≤ (x : Int) := by omega
        have q2 : (x : Int) < (n : Int) := by omega
        have q3 : (0 : Int) ≤ (p : Int) := by omega
        have q4 : (p : Int) < (n : Int) := by omega
        have lrb := Lib.hid hr'.lt
        have nrb := Lib.hid (show rb ≠ g by omega)
        by_cases hO2 : l ≤ O
        · have e2 : decide (l ≤ O) = true := decide_eq_true hO2
          rw [if_pos hO2] at ho
          have u11 : IntKind.i64.wrap ((O : Int) - (l : Int)) = (o : Int) := by rw [w64 (by have := BI.out; omega)]; omega
          clear hs' hr' hb' hT hX hO ho hp eX lO lO2 lo lX hO2 RR SA RA
          go_wp2_with fail
          refine KN.out.mono ?_
          rintro e' w2 ⟨rfl, hr2, ht2⟩
          have S2 := Lib.hid (S1.out.aside HRB.out lrb.out nrb.out ht2)
          have R2 := Lib.hid hr2
          clear hr2 ht2 S1 KN
          go_upto_region 10 with fail
          have c1 := S2.out.cell xn
          have c2 := S2.out.cell pn
          have z1 := S2.out.hs.free x
          have z2 := S2.out.hs.free p
          have S3 := Lib.hid (S2.out.swp xn pn)
          have R3 := Lib.hid (R2.out.aside nrb.out nrb.out (i := x) (j := p) (u := .int .u32 (e[p]! : Int)) (v := .int .u32 (e[x]! : Int)))
          obtain ⟨v3, c3⟩ : ∃ v, (w2.setCell ⟨g, x, none⟩ (.int .u32 (e[p]! : Int))).cell? ⟨g, p, none⟩ = some v := ⟨_, (S2.out.set xn _).cell pn⟩
          generalize hx1 : e[x]! = x1 at *
          generalize hx2 : e[p]! = x2 at *
          clear S2 R2
          go_region
          all_goals
            go_wp2_with fail
            go_roundw
            case rel => exact ⟨k, x + 1, _, _, by omega, by omega, by go_num, S3.out.later (Below.refl _ _).drew, by have := R3.out.later (Below.refl _ _).drew; rwa [RX.out] at this, T1.out⟩
            case measure => simp [intOf]; omega
        · have e2 : decide (l ≤ O) = false := decide_eq_false hO2
          rw [if_neg hO2] at ho
          subst ho
          clear hs' hr' hb' hT hX hO hp eX lO lO2 lo lX hO2 RR SA RA
          go_wp2_with fail
          refine KN.out.mono ?_
          rintro e' w2 ⟨rfl, hr2, ht2⟩
          have S2 := Lib.hid (S1.out.aside HRB.out lrb.out nrb.out ht2)
          have R2 := Lib.hid hr2
          clear hr2 ht2 S1 KN
          go_upto_region 10 with fail
          have c1 := S2.out.cell xn
          have c2 := S2.out.cell pn
          have z1 := S2.out.hs.free x
          have z2 := S2.out.hs.free p
          have S3 := Lib.hid (S2.out.swp xn pn)
          have R3 := Lib.hid (R2.out.aside nrb.out nrb.out (i := x) (j := p) (u := .int .u32 (e[p]! : Int)) (v := .int .u32 (e[x]! : Int)))
          obtain ⟨v3, c3⟩ : ∃ v, (w2.setCell ⟨g, x, none⟩ (.int .u32 (e[p]! : Int))).cell? ⟨g, p, none⟩ = some v := ⟨_, (S2.out.set xn _).cell pn⟩
          generalize hx1 : e[x]! = x1 at *
          generalize hx2 : e[p]! = x2 at *
          clear S2 R2
          go_region
          all_goals
            go_wp2_with fail
            go_roundw
            case rel => exact ⟨k, x + 1, _, _, by omega, by omega, by go_num, S3.out.later (Below.refl _ _).drew, by have := R3.out.later (Below.refl _ _).drew; rwa [RX.out] at this, T1.out⟩
            case measure => simp [intOf]; omega
  · have hv : Go.Sort.breakPatterns d a b = d := by unfold Go.Sort.breakPatterns; simp only []; rw [if_neg (by omega)]
    rw [hv]
    have e8 : decide ((8 : Int) ≤ (l : Int)) = false := decide_eq_false (by omega)
    have e9 : decide (8 ≤ l) = false := decide_eq_false h8
    clear h hn hb hab hl h8 hv
    go_enter Try.func85, Try.ntmps85
    go_wp2_with fail
    go_end0
    exact ⟨rfl, S0.out⟩

end Go.Proofs.Ytfcibccipkokoaa.Qs
