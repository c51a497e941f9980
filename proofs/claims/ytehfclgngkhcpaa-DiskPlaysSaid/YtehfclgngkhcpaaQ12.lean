/- The walk of DiskPlays. -/
import Derived.Test.YtehfclgngkhcpaaQ11
namespace Go.Proofs.Ytehfclgngkhcpaa.Disk
open Go.RowKit
attribute [local go_sem ↓] Go.wp_at_zero Go.wp_at_succ

theorem bools_one (w : World) (a : Bool) : Bools (w.alloc (.cells #[.bool a] 4)) (.slice (some ⟨w.heap.size, 0, none⟩) 1 1) [a] := by
  refine ⟨_, _, rfl, fun j b hb => ⟨w.heap.size, 0, rfl, ?_⟩⟩
  rw [cell_of_row _ _ _ _ _ _ (heap_alloc_new w _)]
  match j, hb with
  | 0, hb => simp at hb; subst hb; rfl
/-- a disk, its copy, and the document's -/
def Duo (w wi : World) (p c q : Nat) (a b : D) : Prop := ∃ G, Own w wi G [(p, a), (c, b)] ∧ QRep wi q b G
theorem Duo.of {w wi wj : World} {p c q : Nat} {a : D} (h : Play w wi p q a a (fun _ => False)) (r : Rep wj c a (Fresh wi wj) ∧ Below wi.heap.size wi wj) : Duo w wj p c q a a := by
  obtain ⟨G, h1, h2, _⟩ := h.ex
  exact ⟨G, (h1.laterE (Below.refl _ _) fun x hx => .inl (.inl hx)).add r |>.1, h2.later r.2⟩
theorem Duo.later {w wi wj : World} {p c q : Nat} {a b : D} (h : Duo w wi p c q a b) (t : Below wi.heap.size wi wj) : Duo w wj p c q a b := by
  obtain ⟨G, h1, h2⟩ := h
  exact ⟨G, h1.later t, h2.later t⟩
theorem Duo.mine {w wi : World} {p c q : Nat} {a b : D} (h : Duo w wi p c q a b) : ∃ F, Rep wi p a F ∧ (∀ x, F x → x < wi.heap.size) ∧ ∀ wj a', Rep wj p a' (grew F wi wj) ∧ Touch F wi wj → Duo w wj p c q a' b := by
  obtain ⟨G, h1, h2⟩ := h
  obtain ⟨F, r, _, hn⟩ := h1.call (i := 0) rfl
  refine ⟨F, r, r.below, fun wj a' hj => ?_⟩
  have h3 := hn wj a' hj
  exact ⟨G, h3.1, h2.far hj.2.size fun x hx => h3.2 x hx⟩
theorem Duo.drop {w wi : World} {p c q : Nat} {a b : D} (h : Duo w wi p c q a b) : Play w wi c q b b (fun _ => False) := by
  obtain ⟨G, h1, h2⟩ := h
  exact ⟨G, h1.drop.laterE (Below.refl _ _) fun x hx => .inl (by rcases hx with hx | hx; exact hx; exact hx.elim), h2, fun _ _ h => h⟩

set_option maxRecDepth 100000 in
set_option maxHeartbeats 16000000 in
theorem plays_walk {w : World} {v : Value} {l : List Cl} {sec : Int} {img : ByteArray} {by_ : Bool} (hc : IsCalls w v l) (hl : l.length ≤ 140737488351232) (him : img.size ≤ 140737488351232) :
    Calls Try.prog 3 #[.int .i64 sec, .string img, .bool by_, v] w fun e w' => e = .returned (.bool true) ∧ Below w.heap.size w w' := by
  have al := alive_any
  have hv := heavy_any hc hl
  have HC := Lib.hid hc
  obtain ⟨va, vc, rfl, _⟩ := hc
  have early : ∀ X, Below w.heap.size w X → Calls Try.prog 10 #[] X fun e w' => e = .returned (.bool true) ∧ Below w.heap.size w w' := fun X t => (al X).mono fun e w' ⟨he, hb⟩ => ⟨he, t.trans (hb.mono t.size)⟩
  have EA := Lib.hid early
  clear al early
  go_enter Try.func3, Try.ntmps3
  go_upto_region 1 with fail
  go_cut [28] (fun c wx => ∃ b : Bool, c = .bool b ∧ Below w.heap.size w wx ∧ (b = false → l.length ≤ 100 ∧ (∀ c ∈ l, c.keep.length ≤ 1000000) ∧ img.size ≤ 2048 ∧ ¬ (64 < sec ∧ sec ≤ 16384)))
  case first =>
    go_wp2_with fail
    refine hv.mono ?_
    rintro e w1 ⟨b, rfl, hb, n, hw⟩
    have B1 := Lib.hid (show Below w.heap.size w w1 from by rw [hw]; exact ⟨rfl, rfl, rfl, Nat.le_refl _, fun _ _ => rfl⟩)
    clear hw hv
    cases b
    case true =>
      go_wp2_with fail
      go_meet
      exact ⟨true, rfl, B1.out, by simp⟩
    case false =>
      have HB := Lib.hid (hb rfl)
      clear hb
      by_cases hi : 2048 < img.size
      · have e1 : decide ((2048 : Int) < (img.size : Int)) = true := decide_eq_true (by omega)
        clear hi
        go_wp2_with fail
        go_meet
        exact ⟨true, rfl, B1.out, by simp⟩
      · have e1 : decide ((2048 : Int) < (img.size : Int)) = false := decide_eq_false (by omega)
        by_cases h1 : 64 < sec
        · have e3 : decide (64 < sec) = true := decide_eq_true h1
          by_cases h2 : sec ≤ 16384
          · have e4 : decide (sec ≤ 16384) = true := decide_eq_true h2
            clear h1 h2
            go_wp2_with fail
            go_meet
            exact ⟨true, rfl, B1.out, by simp⟩
          · have e4 : decide (sec ≤ 16384) = false := decide_eq_false h2
            have R := Lib.hid (show ¬ (64 < sec ∧ sec ≤ 16384) from fun h => h2 h.2)
            have I := Lib.hid (show img.size ≤ 2048 by omega)
            clear h1 h2 hi
            go_wp2_with fail
            go_meet
            exact ⟨false, rfl, B1.out, fun _ => ⟨HB.out.1, fun c hc => by have h1 := weight_mem hc; have h2 := HB.out.2; omega, I.out, R.out⟩⟩
        · have e3 : decide (64 < sec) = false := decide_eq_false h1
          have R := Lib.hid (show ¬ (64 < sec ∧ sec ≤ 16384) from fun h => h1 h.1)
          have I := Lib.hid (show img.size ≤ 2048 by omega)
          clear h1 hi
          go_wp2_with fail
          go_meet
          exact ⟨false, rfl, B1.out, fun _ => ⟨HB.out.1, fun c hc => by have h1 := weight_mem hc; have h2 := HB.out.2; omega, I.out, R.out⟩⟩
  case rest =>
    obtain ⟨b, rfl, hB, hb⟩ := hcut
    have B1 := Lib.hid hB
    clear hB hv
    cases b
    case true =>
      clear hb
      have A := Lib.hid (EA.out wc B1.out)
      go_wp2_with fail
      refine A.out.mono ?_
      rintro e w2 ⟨rfl, b2⟩
      have H2 := Lib.hid b2
      clear b2
      go_wp2_with fail
      go_ret
      exact ⟨rfl, H2.out⟩
    case false =>
    obtain ⟨hl100, hkp, him2, hsec⟩ := hb rfl
    have HK := Lib.hid hkp
    have HI := Lib.hid him2
    have HS := Lib.hid hsec
    clear hb hkp
    go_wp2_with fail
    refine (new_tot sec wc HS.out).mono ?_
    rintro e w2 ⟨dv, ev, rfl, b2, h2⟩
    have B2 := Lib.hid (B1.out.trans (b2.mono B1.out.size))
    have R2 := Lib.hid (And.intro b2 h2)
    clear b2 h2
    go_wp2_with fail
    refine (qnew_tot sec w2).mono ?_
    rintro e w3 ⟨xv, rfl, b3, h3⟩
    have B3 := Lib.hid (B2.out.trans (b3.mono B2.out.size))
    have R3 := Lib.hid (And.intro b3 h3)
    have M3 : Made w dv ev xv w3 := by
      obtain ⟨b2, h2⟩ := R2.out
      rcases h2 with ⟨rfl, rfl, h2⟩ | ⟨p, rfl, rfl, h1, h2, hr⟩
      · rcases h3 with ⟨rfl, _⟩ | ⟨q, _, h4, h5, _⟩
        · exact .inl ⟨rfl, rfl, rfl, B3.out⟩
        · omega
      · rcases h3 with ⟨_, h4⟩ | ⟨q, rfl, _, _, hq⟩
        · omega
        · exact .inr ⟨p, q, _, rfl, rfl, rfl, Made.both B1.out ⟨hr, b2⟩ ⟨hq, b3⟩, rfl⟩
    have HM := Lib.hid M3
    clear b3 h3 M3 R2 R3 B2
    go_upto_if 37 with fail
    go_cut [9, 10, 11] (fun dv ev xv wx => Made w dv ev xv wx)
    case first =>
      cases by_ with
      | false =>
        go_wp2_with fail
        go_meet
        exact HM.out
      | true =>
        clear HM
        go_wp2_with fail
        refine (load_tot img w3 HI.out).mono ?_
        rintro e w4 ⟨dv2, ev2, rfl, b4, h4⟩
        have B4 := Lib.hid (B3.out.trans (b4.mono B3.out.size))
        have R4 := Lib.hid (And.intro b4 h4)
        clear b4 h4
        go_wp2_with fail
        refine (qload_tot img w4 HI.out).mono ?_
        rintro e w5 ⟨xv2, rfl, b5, h5⟩
        have B5 := Lib.hid (B4.out.trans (b5.mono B4.out.size))
        have M5 : Made w dv2 ev2 xv2 w5 := by
          obtain ⟨b4, h4⟩ := R4.out
          rcases h4 with ⟨rfl, rfl, h2⟩ | ⟨p, rfl, rfl, h1, hr⟩
          · rcases h5 with ⟨rfl, _⟩ | ⟨q, _, h6, _⟩
            · exact .inl ⟨rfl, rfl, rfl, B5.out⟩
            · exact (h2 h6).elim
          · rcases h5 with ⟨_, h6⟩ | ⟨q, rfl, _, hq⟩
            · exact (h6 h1).elim
            · exact .inr ⟨p, q, _, rfl, rfl, rfl, Made.both B3.out ⟨hr, b4⟩ ⟨hq, b5⟩, rfl⟩
        have HM := Lib.hid M5
        clear b5 h5 M5 R4 B4
        go_wp2_with fail
        go_meet
        exact HM.out
    case rest =>
      have hm := hcut
      clear HM B3
      rcases hm with ⟨rfl, rfl, rfl, hB⟩ | ⟨p, q, D1, rfl, rfl, rfl, hP, hD⟩
      · have A := Lib.hid (EA.out wc hB)
        clear hcut hB
        go_wp2_with fail
        refine A.out.mono ?_
        rintro e w2 ⟨rfl, b2⟩
        have H2 := Lib.hid b2
        clear b2
        go_wp2_with fail
        go_ret
        exact ⟨rfl, H2.out⟩
      · clear hcut
        have PP := Lib.hid hP
        have hD0 : D1.loose.length ≤ 0 := by rw [hD]; simp
        obtain ⟨F, r, _, _⟩ := hP.mine
        obtain ⟨G, rq, _, _⟩ := hP.doc
        obtain ⟨gs, sc, lv, L, _⟩ := rq.lay
        have c0 := L.cell0
        have cl := Lib.hid (len_any r)
        clear r rq L hP hD
        go_upto_region 10 with fail
        go_cut [71] (fun c wx => c = .bool false ∧ Play w wx p q D1 D1 (fun _ => False))
        case first =>
          go_region_held3 (fun w' => w'.cell? ⟨q, 0, none⟩ = some (.slice (some ⟨gs, 0, none⟩) D1.sure.length sc) ∧ Play w w' p q D1 D1 (fun _ => False))
            (first | exact ⟨by simpa using c0, PP.out.later ((Below.refl _ _).drew)⟩ | (go_split_ands; exact ⟨‹_›, ‹_›⟩))
            (first | (go_at_call 15; obtain ⟨F, r, _, _⟩ := (PP.out.later ((Below.refl _ wc).drew)).mine; refine Calls.mono (len_any r) ?_; rintro e w' ⟨rfl, rfl⟩))
          go_wp2_with fail
          go_meet
          exact ⟨rfl, PP.out.later ((Below.refl _ _).drew)⟩
        case rest =>
          obtain ⟨rfl, hP⟩ := hcut
          clear PP cl c0
          have P0 := Lib.hid hP
          clear hP
          go_wp2_with fail
          go_loopw [9, 12] (fun dv i wr => ∃ (k : Nat) (p : Nat) (D : D), k ≤ l.length ∧ i = .int .i64 k ∧ dv = .pointer (some ⟨p, 0, none⟩) ∧ Play w wr p q D D (fun _ => False) ∧ D.loose.length ≤ k) (fun _ i _ => l.length - (intOf i).toNat)
          case atStart => exact ⟨0, p, D1, by omega, by go_num, rfl, P0.out, hD0⟩
          case round =>
            obtain ⟨k, p, D, hk, rfl, rfl, hp, hDl⟩ := hrel
            clear P0
            by_cases hlt : k < l.length
            · have HB := hp.below
              obtain ⟨x, o, cap', hv, hcl⟩ := (HC.out.later HB).at hlt
              simp at hv
              obtain ⟨rfl, rfl⟩ := hv
              have c0 := hcl.c0
              have hop := hcl.op
              by_cases h7 : l[k].op % 8 = 7
              · have e7 : (l[k].op % 8 == 7) = true := by simpa using h7
                obtain ⟨F, r, _⟩ := hp.mine
                have cc := Lib.hid (copy_any r (by omega))
                have HP := Lib.hid hp
                have f99 : ∀ W, Calls Try.prog 18 #[.int .u8 99] W fun e w' => e = .returned (.string (fullB 99)) ∧ Below W.heap.size W w' := fun W => full_any 99 W
                have FF := Lib.hid f99
                clear hp r hcl f99 h7
                go_wp2_with fail
                refine cc.out.mono ?_
                rintro e w2 ⟨c, rfl, hr⟩
                have DU := Lib.hid (Duo.of HP.out hr)
                clear hr cc HP
                go_wp2_with fail
                refine (FF.out _).mono ?_
                rintro e w3 ⟨rfl, b3⟩
                have D3 := DU.out.later b3
                obtain ⟨F, r, _, hn⟩ := D3.mine
                have cw := Lib.hid (write_tot r 0 (fullB 99) (by omega))
                have NX := Lib.hid hn
                clear DU b3 D3 r hn FF
                go_wp2_with fail
                refine cw.out.mono ?_
                rintro e w4 ⟨rfl, h4⟩
                have D4 := NX.out _ _ h4
                obtain ⟨F, r, hlt5, hn⟩ := D4.mine
                have hwl := wRes_len D 0 (fullB 99)
                have ba : Below w4.heap.size w4 (w4.alloc (.cells #[.bool true] 4)) := (Below.refl _ _).alloc (Nat.le_refl _) _
                have ck := Lib.hid (crash_any (r.later ba) (by omega) (bools_one w4 true) (by decide) (fun b hb hF => by have := hlt5 b hF; simp [Value.ownBlock] at hb; omega))
                have BA := Lib.hid ba
                have NY := Lib.hid hn
                clear cw NX h4 D4 r hlt5 hn ba
                go_wp2_with fail
                refine ck.out.mono ?_
                rintro e w6 ⟨rfl, h6⟩
                have D7 := (NY.out _ _ ⟨h6.1.grown _, (Touch.ofNew BA.out).trans' h6.2⟩).drop
                have HE := Lib.hid D7
                clear h6 D7 NY BA ck
                go_wp2_with fail
                go_roundw
                case rel => exact ⟨k + 1, c, D, by omega, by go_num, rfl, HE.out, by omega⟩
                case measure => simp [intOf]; omega
              · have e7 : (l[k].op % 8 == 7) = false := by simpa using h7
                have h100 : l.length ≤ 100 := hl100
                have hkl := HK.out l[k] (List.getElem_mem hlt)
                have hcw : ClAt w x (o + k * 7) l[k] := by
                  obtain ⟨x', o', c', he, h1⟩ := HC.out.at hlt
                  simp at he
                  obtain ⟨⟨rfl, rfl⟩, _⟩ := he
                  exact h1
                obtain ⟨ka, kc, hkv⟩ := hcw.kv
                have hkf : l[k].keep ≠ [] → ∀ b, l[k].kv.ownBlock = some b → b < w.heap.size := fun hne b hb => by
                  obtain ⟨a2, n2, hv2, hc2⟩ := hcw.keep
                  obtain ⟨y, hy⟩ : ∃ y, l[k].keep[0]? = some y := by
                    cases hz : l[k].keep with
                    | nil => exact (hne hz).elim
                    | cons y r => exact ⟨y, rfl⟩
                  obtain ⟨x3, o3, rfl, h3⟩ := hc2 0 y hy
                  rw [hv2] at hb
                  simp [Value.ownBlock] at hb
                  subst hb
                  exact block_lt_of_cell h3
                have dA : ∀ W, Below wr.heap.size wr W → Calls Try.prog 20 #[.pointer (some ⟨p, 0, none⟩), .pointer (some ⟨q, 0, none⟩), .agg #[.int .u8 l[k].op, .int .i64 l[k].k, .int .u8 (l[k].c.toNat : Int), .bool l[k].odd, .string l[k].s, .int .i64 l[k].n, .slice ka l[k].keep.length kc]] W (DoesPost w p q D) := fun W t => by
                  have := does_any (hp.later t) (by omega) l[k] hkv (hcl.keep.later t) hkl hkf hcl.op hcl.n.2
                  unfold clV at this
                  rw [hkv] at this
                  exact this
                have DA := Lib.hid dA
                have c1 := hcl.c1
                have c2 := hcl.c2
                have c3 := hcl.c3
                have c4 := hcl.c4
                have c5 := hcl.c5
                have c6 := hcl.c6
                rw [hkv] at c6
                clear dA hcl hcw hkf hkv hp h7
                generalize l[k].op = x0 at *
                generalize l[k].k = x1 at *
                generalize (l[k].c.toNat : Int) = x2 at *
                generalize l[k].odd = x3 at *
                generalize l[k].s = x4 at *
                generalize l[k].n = x5 at *
                generalize l[k].keep.length = x6 at *
                go_wp2_with fail
                go_region_with (first
                  | (go_at_call 20; refine Calls.mono (DA.out _ (by first | exact Below.refl _ _ | exact (Below.refl _ _).drew)) ?_; rintro e w' ⟨rfl, D', hp', hl'⟩; obtain ⟨_, rq', _⟩ := hp'.doc; obtain ⟨_, _, _, L', _⟩ := rq'.lay; have c1' := L'.cell1; obtain ⟨la, lc, rfl⟩ := L'.form; clear L' rq')
                  | (go_at_call 21; obtain ⟨_, r, _⟩ := (hp'.later (by first | exact Below.refl _ _ | exact (Below.refl _ _).drew)).mine; refine Calls.mono (loose_any r) ?_; rintro e w'' ⟨rfl, rfl⟩; clear r)
                  | (go_at_call 22; obtain ⟨_, r, _⟩ := (hp'.later (by first | exact Below.refl _ _ | exact (Below.refl _ _).drew)).mine; refine Calls.mono (sure_any r) ?_; rintro e w3 ⟨rfl, hs⟩; clear r)
                  | (go_at_call 23; obtain ⟨_, r, _⟩ := ((hp'.later (by first | exact Below.refl _ _ | exact (Below.refl _ _).drew)).later hs).doc; refine Calls.mono (qall_any r) ?_; rintro e w4 ⟨rfl, ha⟩; clear r))
                all_goals
                  have HE := Lib.hid (hp'.later (hs.trans (ha.mono hs.size)))
                  clear hp' hs ha c1'
                  go_wp2_with fail
                  go_roundw
                  case rel => exact ⟨k + 1, p, D', by omega, by go_num, rfl, HE.out, by omega⟩
                  case measure => simp [intOf]; omega
            · obtain rfl : k = l.length := by omega
              have A := Lib.hid (EA.out wr hp.below)
              clear hp
              go_wp2_with fail
              refine A.out.mono ?_
              rintro e w2 ⟨rfl, b2⟩
              have H2 := Lib.hid b2
              clear b2
              go_wp2_with fail
              go_ret
              exact ⟨rfl, H2.out⟩

end Go.Proofs.Ytehfclgngkhcpaa.Disk
