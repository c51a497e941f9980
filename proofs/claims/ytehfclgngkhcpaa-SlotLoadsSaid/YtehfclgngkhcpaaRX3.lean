/- Walks: SlotPlays. -/
import Derived.Test.YtehfclgngkhcpaaRX2
namespace Go.Proofs.Ytehfclgngkhcpaa.Slot
open Go.RowKit
attribute [local go_sem ↓] Go.wp_at_zero Go.wp_at_succ

theorem Two.loaded {W0 w w' : World} {p g c q p' g' c' : Nat} {F : Nat → Prop} {a : A} (h : Two W0 w p g c q F a a) (t : Below w.heap.size w w') (hs : St W0 w' p' g' c' a) (hp : w.heap.size ≤ p') (hg : w.heap.size ≤ g') : Two W0 w' p' g' c' q F a a :=
  ⟨hs, h.rf.later t, h.okb, h.own, fun x hx hb => by
    have := h.rf.below x hx
    rcases hb with rfl | rfl <;> omega⟩
theorem Two.start {w w1 w2 : World} {n : Nat} (h1 : newA w w1 n) (h2 : newR w1 w2 n) (hn : 16 ≤ n ∧ n ≤ 4096) : Two w w2 (w.heap.size + 1) w.heap.size n (w1.heap.size + 1) (fun b => w1.heap.size ≤ b ∧ b < w2.heap.size) (A.new n) (A.new n) := by
  have hs := St.new h1
  have hb := hs.area.below
  refine ⟨hs.later h2.2, h2.1, new_ok hn.1 hn.2, fun x hx => Nat.le_trans h1.2.size hx.1, fun x hx hh => ?_⟩
  have := hb x hh
  omega

set_option maxRecDepth 100000 in
set_option maxHeartbeats 8000000 in
theorem plays_walk (a0 : Int) {v : Value} {l : List Cl} {w : World} (hc : IsCalls w v l) (hl : l.length ≤ 140737488351232) :
    Calls Try.prog 4 #[.int .i64 a0, v] w fun e w' => e = .returned (.bool true) ∧ Below w.heap.size w w' := by
  have al := Lib.hid alive_any
  have hv := heavy_any hc hl
  have HC := Lib.hid hc
  obtain ⟨ca, cap, rfl, _⟩ := hc
  have HV := Lib.hid hv
  clear hv
  by_cases hz : 16 ≤ a0 ∧ a0 ≤ 4096
  · obtain ⟨N, rfl⟩ : ∃ N : Nat, a0 = N := ⟨a0.toNat, by omega⟩
    have NW := Lib.hid (new_any N w (by omega) (by omega))
    have NQ := Lib.hid (fun W => qnew_any N W (by omega) (by omega))
    have HZ := Lib.hid (show 16 ≤ N ∧ N ≤ 4096 by omega)
    clear hz
    go_enter Try.func4, Try.ntmps4
    go_wp2_with fail
    refine HV.out.mono ?_
    rintro e w' ⟨hb, rfl, hb2, rfl⟩
    have HB2 := Lib.hid hb2
    clear hb2 HV
    cases hb
    case true =>
      go_wp2_with fail
      refine (al.out _).mono ?_
      rintro e w1 ⟨rfl, b1⟩
      have B := Lib.hid b1
      clear b1
      go_wp2_with fail
      go_ret
      exact ⟨rfl, B.out⟩
    case false =>
      obtain ⟨hl100, hwt⟩ := HB2.out rfl
      clear HB2
      have hl1 : (l.length : Int) ≤ 100 := by omega
      go_wp2_with fail
      refine NW.out.mono ?_
      rintro e w1 ⟨rfl, h1⟩
      have H1 := Lib.hid h1
      clear h1 NW
      go_wp2_with fail
      refine (NQ.out w1).mono ?_
      rintro e w2 ⟨rfl, h2⟩
      have TW := Lib.hid (Two.start H1.out h2 HZ.out)
      clear h2 NQ H1
      obtain ⟨q, hq⟩ : ∃ q, q = w1.heap.size + 1 := ⟨_, rfl⟩
      rw [← hq] at TW ⊢
      clear hq
      go_wp2_with fail
      go_loopw [5, 8] (fun s5 i wr => ∃ (k p g c : Nat) (F : Nat → Prop) (a : A), k ≤ l.length ∧ i = .int .i64 k ∧ s5 = .pointer (some ⟨p, 0, none⟩) ∧ Two w wr p g c q F a a) (fun _ i _ => l.length - (intOf i).toNat)
      case atStart => exact ⟨0, _, _, _, _, _, by omega, by go_num, rfl, TW.out⟩
      case round =>
        obtain ⟨k, p, g, c, F, a, hk, rfl, rfl, hT⟩ := hrel
        clear TW
        by_cases hlt : k < l.length
        · obtain ⟨x, o, cap', hv, hcl⟩ := HC.out.at hlt
          simp at hv
          obtain ⟨rfl, rfl⟩ := hv
          have hx := block_lt_of_cell hcl.c0
          have CL := Lib.hid (show ∀ W, Below w.heap.size w W → ClAt W x (o + k * 3) l[k] from fun W t => hcl.far (t.block x hx))
          have cl1 := CL.out _ hT.st.below
          have c0 := cl1.c0
          have c1 := cl1.c1
          have c2 := cl1.c2
          have o1 := cl1.op
          have s1 := cl1.s
          have k1 := cl1.k
          have HT := Lib.hid hT
          clear cl1 hcl hT
          have b0 : (0 : Int) ≤ (k : Int) := Int.natCast_nonneg _
          have b1 : (k : Int) < (l.length : Int) := by omega
          obtain ⟨d, hd⟩ : ∃ d : Nat, l[k].op % 8 = (d : Int) := ⟨(l[k].op % 8).toNat, by omega⟩
          have HD := Lib.hid hd
          have DO := Lib.hid (does_any HT.out l[k].op l[k].k l[k].s o1 d hd (by omega))
          have OK := Lib.hid (opA_ok HT.out.okb d l[k].k l[k].s.data.toList)
          generalize opA a d l[k].k l[k].s.data.toList = a2 at *
          generalize l[k].op = O at *
          generalize l[k].k = K at *
          generalize l[k].s = T at *
          by_cases h7 : d = 7
          · subst h7
            have BY := Lib.hid (bytes_is HT.out.st.area)
            have LD := Lib.hid (load_is HT.out.okb HT.out.st.below)
            generalize strB (imgA a) = S8 at *
            clear DO OK
            go_wp2_with fail
            refine BY.out.mono ?_
            rintro e w' ⟨rfl, rfl⟩
            go_wp2_with fail
            refine LD.out.mono ?_
            rintro e w3 ⟨rfl, b3, c', h3⟩
            have T3 := Lib.hid (HT.out.loaded b3 h3 (by omega) (Nat.le_refl _))
            have SM := Lib.hid (same_any T3.out)
            clear b3 h3 BY LD HT c0 c1 c2
            go_wp2_with fail
            refine SM.out.mono ?_
            rintro e w4 ⟨rfl, hb⟩
            have T4 := Lib.hid (T3.out.later hb)
            clear hb SM T3
            go_wp2_with fail
            go_roundw
            case rel => exact ⟨k + 1, _, _, _, _, _, by omega, by go_num, rfl, T4.out⟩
            case measure => simp [intOf]; omega
          · have en : ((d : Int) == 7) = false := by simp; omega
            clear h7
            go_wp2_with fail
            refine DO.out.mono ?_
            rintro e w3 ⟨rfl, F', h3⟩
            have T3 := Lib.hid h3
            have SM := Lib.hid (same_any T3.out)
            clear h3 DO HT c0 c1 c2
            go_wp2_with fail
            refine SM.out.mono ?_
            rintro e w4 ⟨rfl, hb⟩
            have T4 := Lib.hid (T3.out.later hb)
            clear hb SM T3
            go_wp2_with fail
            go_roundw
            case rel => exact ⟨k + 1, _, _, _, _, _, by omega, by go_num, rfl, T4.out⟩
            case measure => simp [intOf]; omega
        · obtain rfl : k = l.length := by omega
          have HB := Lib.hid hT.st.below
          clear hT
          go_wp2_with fail
          refine (al.out _).mono ?_
          rintro e w3 ⟨rfl, b3⟩
          have B := Lib.hid (HB.out.trans (b3.mono HB.out.size))
          clear b3
          go_wp2_with fail
          go_ret
          exact ⟨rfl, B.out⟩
  · have hzb : sizedB a0 = false := decide_eq_false hz
    have NW := Lib.hid (new_no a0 w hzb)
    have NQ := Lib.hid (qnew_no a0 w hzb)
    clear hz hzb
    go_enter Try.func4, Try.ntmps4
    go_wp2_with fail
    refine HV.out.mono ?_
    rintro e w' ⟨hb, rfl, hb2, rfl⟩
    have HB2 := Lib.hid hb2
    clear hb2 HV
    cases hb
    case true =>
      go_wp2_with fail
      refine (al.out _).mono ?_
      rintro e w1 ⟨rfl, b1⟩
      have B := Lib.hid b1
      clear b1
      go_wp2_with fail
      go_ret
      exact ⟨rfl, B.out⟩
    case false =>
      go_wp2_with fail
      refine NW.out.mono ?_
      rintro e w' ⟨rfl, rfl⟩
      go_wp2_with fail
      refine NQ.out.mono ?_
      rintro e w' ⟨rfl, rfl⟩
      go_wp2_with fail
      refine (al.out _).mono ?_
      rintro e w1 ⟨rfl, b1⟩
      have B := Lib.hid b1
      clear b1
      go_wp2_with fail
      go_ret
      exact ⟨rfl, B.out⟩

end Go.Proofs.Ytehfclgngkhcpaa.Slot
