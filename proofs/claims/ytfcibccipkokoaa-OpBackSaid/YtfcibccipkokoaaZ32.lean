/-
  Walks: what was written is read as itself, bytes that are read are written as themselves, which pages ops are of.
-/
import Derived.Deep.CutBlock
import Derived.Test.YtfcibccipkokoaaZ28
import Derived.Test.YtfcibccipkokoaaZ23
import Derived.Test.YtfcibccipkokoaaZ18
namespace Go.Proofs.Ytfcibccipkokoaa.Op
open Go.RowKit
open Go.Proofs.Ytfcibccipkokoaa.Seq (strS u32S Is)
open Go.Proofs.Ytfcibccipkokoaa.By
attribute [local go_sem ↓] Go.wp_at_zero Go.wp_at_succ

/-- number i of a slice of them -/
theorem num_at {w : World} {ad : Option Addr} {n cap : Nat} {ps : List Nat} (h : Is u32S w (.slice ad n cap) ps) {i : Nat} (hi : i < ps.length) : ∃ b o, ad = some ⟨b, o, none⟩ ∧ b < w.heap.size ∧ w.cell? ⟨b, o + i, none⟩ = some (.int .u32 (ps[i] : Int)) := by
  obtain ⟨b, o, h1, h2, h3⟩ := h.at (List.getElem?_eq_getElem hi)
  have := h3 0 _ rfl
  rw [show u32S.k = 1 from rfl, Nat.mul_one, Nat.add_zero] at this
  exact ⟨b, o, h1, h2, this⟩
theorem dN {B : Nat} {a w : World} (h : Below B a w) (n : Nat) : Below B a (w.drewN n) := ⟨h.os, h.tape, h.output, h.size, h.block⟩
theorem dec_of_enc {w : World} {l : List O} {v : Value} (h : Ops w v l) (e : encE l = 0) : decE (encS l) = 0 ∧ decR (encS l) = l := by
  obtain ⟨q, rfl, _, hq⟩ := h
  have := dec_enc e (fun o ho => by obtain ⟨x, hx, rfl⟩ := List.mem_map.1 ho; exact (hq x hx).wf)
  unfold decE decR
  rw [this]
  exact ⟨rfl, rfl⟩
theorem enc_small {l : List O} (e : encE l = 0) : (encS l).size ≤ 100000 := by
  obtain ⟨h1, h2, h3⟩ := enc_ok e
  have : (L (encS l)).length ≤ 1 + 2000 * l.length := by
    rw [h3]
    unfold encL
    rw [List.length_append, be_length]
    have : ∀ m : List O, (∀ o ∈ m, May o) → (m.flatMap bytes).length ≤ 2000 * m.length := by
      intro m
      induction m with
      | nil => intro _; simp
      | cons o m ih =>
        intro h
        have h4 := bytes_le (h o (List.mem_cons_self ..))
        have h5 := ih fun x hx => h x (List.mem_cons_of_mem _ hx)
        rw [List.flatMap_cons, List.length_append, List.length_cons]
        omega
    have := this l h2
    omega
  rw [L_len] at this
  omega

set_option maxRecDepth 100000 in
set_option maxHeartbeats 4000000 in
theorem back_walk {w : World} {l : List O} {vl : Value} {s : ByteArray} (hl : Ops w vl l) (hlen : l.length ≤ 140737488351232) :
    Calls Try.prog 3 #[vl, .string s] w fun e w' => e = .returned (.bool true) ∧ Below w.heap.size w w' := by
  have KH := Lib.hid (heavy_any hl)
  have KE := Lib.hid (fun W (B : Below w.heap.size w W) => cencode_any (hl.later B))
  have KP := Lib.hid (fun W (B : Below w.heap.size w W) (hn : l.length ≤ 4096) => cpages_any (hl.later B) (by omega))
  have DE := Lib.hid (fun e => dec_of_enc hl e)
  have HL := Lib.hid hl
  obtain ⟨adl, cl, rfl⟩ := hl.shape
  clear hl
  by_cases h1 : heavyO l = true
  · rw [h1] at KH
    clear KE KP DE HL
    go_enter Try.func3, Try.ntmps3
    go_wp2_with fail
    (with_reducible refine KH.out.mono ?_)
    rintro e w1 ⟨rfl, b1⟩
    have B1 := Lib.hid b1
    clear b1
    go_wp2_with (go_at_call 9; (with_reducible refine (alive_any _).mono ?_); rintro e w5 ⟨rfl, d5⟩)
    go_ret
    exact ⟨rfl, B1.out.trans (d5.mono B1.out.size)⟩
  have h2 : heavyO l = false := by simpa using h1
  rw [h2] at KH
  have h3 := (heavy_no h2).1
  clear h1 h2
  by_cases h4 : 4096 < s.size
  · clear KE KP DE HL
    go_enter Try.func3, Try.ntmps3
    go_wp2_with fail
    (with_reducible refine KH.out.mono ?_)
    rintro e w1 ⟨rfl, b1⟩
    have B1 := Lib.hid b1
    clear b1
    go_wp2_with (go_at_call 9; (with_reducible refine (alive_any _).mono ?_); rintro e w5 ⟨rfl, d5⟩)
    go_ret
    exact ⟨rfl, B1.out.trans (d5.mono B1.out.size)⟩
  go_enter Try.func3, Try.ntmps3
  go_wp2_with fail
  (with_reducible refine KH.out.mono ?_)
  rintro e w1 ⟨rfl, b1⟩
  have B1 := Lib.hid b1
  clear b1 KH
  go_wp2_with fail
  (with_reducible refine (KE.out _ B1.out).mono ?_)
  rintro e w2 ⟨rfl, b2⟩
  have B2 := Lib.hid (B1.out.trans (b2.mono B1.out.size))
  clear b2 B1 KE
  obtain ⟨ee, hee⟩ : ∃ ee, ee = encE l := ⟨_, rfl⟩
  obtain ⟨E, hE⟩ : ∃ E, E = encS l := ⟨_, rfl⟩
  have EE := Lib.hid hee
  have ES := Lib.hid hE
  rw [← hee, ← hE]
  clear hee hE
  go_upto_if 34 with fail
  go_cut [4] (fun _ wx => Below w.heap.size w wx)
  case first =>
    by_cases he0 : ee = 0
    · have he : encE l = 0 := by rw [← EE.out]; exact he0
      have KD := Lib.hid (fun W => cdecode_any (encS l) W (enc_small he))
      have D2 := DE.out he
      have f1 : ((ee : Int) == 0) = true := by rw [he0]; rfl
      unfold DecP at KD
      rw [D2.1, D2.2, ← ES.out] at KD
      have KA := Lib.hid (fun (W : World) (v : Value) (B : Below w.heap.size w W) (h : Ops W v l) => (show Calls Try.prog 12 #[v, .slice adl l.length cl] W fun e w' => e = .returned (.bool true) ∧ Below W.heap.size W w' from by
        have := all_any h (HL.out.later B) (by omega)
        rw [decide_eq_true rfl] at this
        exact this))
      clear D2 he he0 DE KP HL
      go_wp2_with fail
      (with_reducible refine (KD.out _).mono ?_)
      rintro e w3 ⟨v3, rfl, o3, b3⟩
      have B3 := Lib.hid (B2.out.trans (b3.mono B2.out.size))
      have O3 := Lib.hid o3
      obtain ⟨ad3, c3, rfl⟩ := o3.shape
      clear b3 o3 B2 KD
      go_wp2_with fail
      (with_reducible refine (KA.out _ _ B3.out O3.out).mono ?_)
      rintro e w4 ⟨rfl, b4⟩
      have B4 := Lib.hid (B3.out.trans (b4.mono B3.out.size))
      clear b4 B3 O3 KA
      go_wp2_with fail
      go_meet
      exact B4.out
    · have f1 : ((ee : Int) == 0) = false := by rw [beq_eq_false_iff_ne]; omega
      clear DE KP HL he0
      go_wp2_with fail
      go_meet
      exact B2.out
  case rest =>
    have B3 := Lib.hid hcut
    clear B2 hcut DE
    go_wp2_with fail
    (with_reducible refine (KP.out _ B3.out h3).mono ?_)
    rintro e w4 ⟨vp, ps, rfl, p4, q4, n4, b4⟩
    have B4 := Lib.hid (B3.out.trans (b4.mono B3.out.size))
    have P4 := Lib.hid p4
    have Q4 := Lib.hid q4
    obtain ⟨adp, cp, rfl⟩ := p4.shape
    clear p4 q4 b4 B3 KP
    clear EE ES
    go_wp2_with fail
    go_loopw [10] (fun i wr => ∃ k : Nat, i = .int .i64 k ∧ k ≤ ps.length ∧ Below w4.heap.size w4 wr) (fun i _ => ps.length - (intOf i).toNat)
    case atStart => exact ⟨0, rfl, Nat.zero_le _, Below.refl _ _⟩
    case round =>
      obtain ⟨k, rfl, hk, hb⟩ := hrel
      have B := Lib.hid hb
      clear hb
      by_cases hlt : k < ps.length
      · have hp : ∃ o ∈ l, o.page = ps[k] := (Q4.out.1 _).1 (List.getElem_mem hlt)
        have HP := Lib.hid hp
        clear hp
        go_wp2_with fail
        go_loopw [11, 12] (fun b j wr => ∃ (c : Bool) (i : Nat), b = .bool c ∧ j = .int .i64 i ∧ i ≤ l.length ∧ (c = true ↔ ∃ o ∈ l.take i, o.page = ps[k]) ∧ Below w4.heap.size w4 wr) (fun _ j _ => l.length - (intOf j).toNat)
        case atStart => exact ⟨false, 0, rfl, rfl, Nat.zero_le _, by simp, B.out⟩
        case round =>
          obtain ⟨c, i, rfl, rfl, hi, hc, hb2⟩ := hrel
          have C2 := Lib.hid hb2
          have HC := Lib.hid hc
          clear hb2 hc
          by_cases hlt2 : i < l.length
          · have C3 := Lib.hid (C2.out.drew)
            obtain ⟨u, b, o, rfl, io, po⟩ := (HL.out.later (B4.out.trans (C2.out.mono B4.out.size))).nine hlt2
            have x1 := po.c1
            obtain ⟨bp, op, rfl, _, xp⟩ := num_at (P4.out.later C2.out) hlt
            have NX := Lib.hid (show ∀ d : Bool, (d = true ↔ c = true ∨ l[i].page = ps[k]) → (d = true ↔ ∃ o ∈ l.take (i + 1), o.page = ps[k]) from fun d hd => by
              rw [hd, HC.out, List.take_succ_eq_append_getElem hlt2]
              constructor
              · rintro (⟨o, h1, h2⟩ | h)
                · exact ⟨o, List.mem_append_left _ h1, h2⟩
                · exact ⟨_, List.mem_append_right _ (List.mem_singleton.2 rfl), h⟩
              · rintro ⟨o, h1, h2⟩
                rcases List.mem_append.1 h1 with h1 | h1
                · exact .inl ⟨o, h1, h2⟩
                · rw [List.mem_singleton.1 h1] at h2; exact .inr h2)
            generalize l[i].page = X at *
            generalize ps[k] = Y at *
            have xe : ((X : Int) == (Y : Int)) = decide (X = Y) := by rw [Bool.eq_iff_iff]; simp; omega
            clear io po HC HP
            cases c with
            | true =>
              go_wp2_with fail
              go_quiet (fail)
              go_wp2_with fail
              exact ⟨⟨true, i + 1, rfl, by go_num, hlt2, NX.out true (by simp), dN C2.out _⟩, by simp [intOf]; omega⟩
            | false =>
              go_wp2_with fail
              go_quiet (fail)
              go_wp2_with fail
              exact ⟨⟨decide (X = Y), i + 1, rfl, by go_num, hlt2, NX.out _ (by simp), dN C2.out _⟩, by simp [intOf]; omega⟩
          · have hall : c = true := HC.out.2 (by rw [List.take_of_length_le (by omega)]; exact HP.out)
            subst hall
            obtain ⟨bp, op, rfl, _, xp⟩ := num_at (P4.out.later C2.out) hlt
            clear HC HP
            by_cases h0 : k = 0
            · subst h0
              generalize ps[0] = Y at *
              go_wp2_with fail
              go_quiet (fail)
              go_wp2_with fail
              exact ⟨⟨1, by go_num, hlt, dN C2.out _⟩, by simp [intOf]; omega⟩
            · have hk1 : k - 1 < ps.length := by omega
              obtain ⟨bq, oq, e2, _, xq⟩ := num_at (P4.out.later C2.out) hk1
              simp only [Option.some.injEq, Addr.mk.injEq] at e2
              obtain ⟨rfl, rfl, _⟩ := e2
              have hlt3 : ps[k - 1] < ps[k] := (List.pairwise_iff_getElem.1 Q4.out.2) (k - 1) k hk1 hlt (by omega)
              obtain ⟨j, rfl⟩ : ∃ j, k = j + 1 := ⟨k - 1, by omega⟩
              simp only [Nat.add_sub_cancel] at xq hlt3
              have hj : ((j + 1 : Nat) : Int) - 1 = (j : Int) := by omega
              generalize ps[j + 1] = Y at *
              generalize ps[j] = Z at *
              go_wp2_with fail
              go_quiet (fail)
              go_wp2_with fail
              exact ⟨⟨j + 2, by go_num, hlt, dN C2.out _⟩, by simp [intOf]; omega⟩
      · obtain rfl : k = ps.length := by omega
        go_wp2_with fail
        go_loopw [13] (fun i wr => ∃ k : Nat, i = .int .i64 k ∧ k ≤ l.length ∧ Below w4.heap.size w4 wr) (fun i _ => l.length - (intOf i).toNat)
        case atStart => exact ⟨0, rfl, Nat.zero_le _, B.out⟩
        case round =>
          obtain ⟨k, rfl, hk, hb⟩ := hrel
          have C := Lib.hid hb
          clear hb B
          by_cases hlt : k < l.length
          · have hp : l[k].page ∈ ps := (Q4.out.1 _).2 ⟨_, List.getElem_mem hlt, rfl⟩
            have HP := Lib.hid hp
            clear hp
            go_wp2_with fail
            go_loopw [14, 15] (fun b j wr => ∃ (c : Bool) (i : Nat), b = .bool c ∧ j = .int .i64 i ∧ i ≤ ps.length ∧ (c = true ↔ l[k].page ∈ ps.take i) ∧ Below w4.heap.size w4 wr) (fun _ j _ => ps.length - (intOf j).toNat)
            case atStart => exact ⟨false, 0, rfl, rfl, Nat.zero_le _, by simp, C.out⟩
            case round =>
              obtain ⟨c, i, rfl, rfl, hi, hc, hb2⟩ := hrel
              have C2 := Lib.hid hb2
              have HC := Lib.hid hc
              clear hb2 hc
              by_cases hlt2 : i < ps.length
              · obtain ⟨u, b, o, rfl, io, po⟩ := (HL.out.later (B4.out.trans (C2.out.mono B4.out.size))).nine hlt
                have x1 := po.c1
                obtain ⟨bp, op, rfl, _, xp⟩ := num_at (P4.out.later C2.out) hlt2
                have NX := Lib.hid (show ∀ d : Bool, (d = true ↔ c = true ∨ l[k].page = ps[i]) → (d = true ↔ l[k].page ∈ ps.take (i + 1)) from fun d hd => by
                  rw [hd, HC.out, List.take_succ_eq_append_getElem hlt2, List.mem_append, List.mem_singleton])
                generalize l[k].page = X at *
                generalize ps[i] = Y at *
                have xe : ((X : Int) == (Y : Int)) = decide (X = Y) := by rw [Bool.eq_iff_iff]; simp; omega
                clear io po HC HP
                cases c with
                | true =>
                  go_wp2_with fail
                  go_quiet (fail)
                  go_wp2_with fail
                  exact ⟨⟨true, i + 1, rfl, by go_num, hlt2, NX.out true (by simp), dN C2.out _⟩, by simp [intOf]; omega⟩
                | false =>
                  go_wp2_with fail
                  go_quiet (fail)
                  go_wp2_with fail
                  exact ⟨⟨decide (X = Y), i + 1, rfl, by go_num, hlt2, NX.out _ (by simp), dN C2.out _⟩, by simp [intOf]; omega⟩
              · have hall : c = true := HC.out.2 (by rw [List.take_of_length_le (by omega)]; exact HP.out)
                subst hall
                clear HC HP
                go_wp2_with fail
                go_roundw
                case rel => exact ⟨k + 1, by go_num, hlt, C2.out⟩
                case measure => simp [intOf]; omega
          · have B5 := Lib.hid (B4.out.trans (C.out.mono B4.out.size))
            have KD := Lib.hid (fun W => cdecode_any s W (by omega))
            unfold DecP at KD
            clear C B4 P4 Q4 HL
            go_wp2_with fail
            (with_reducible refine (KD.out _).mono ?_)
            rintro e w5 ⟨v5, rfl, o5, b5⟩
            have B6 := Lib.hid (B5.out.trans (b5.mono B5.out.size))
            have O5 := Lib.hid o5
            obtain ⟨ad5, c5, rfl⟩ := o5.shape
            clear b5 o5 B5 KD
            have W : Hid ((decE s = 7 ∧ (decR s).length = 0) ∨ (decE s = 0 ∧ encE (decR s) = 0 ∧ encS (decR s) = s)) := Lib.hid (by
              unfold decE decR
              cases h : decL s with
              | none => exact .inl ⟨rfl, rfl⟩
              | some m => exact .inr ⟨rfl, (enc_dec h).1, (enc_dec h).2.1⟩)
            have KE := Lib.hid (fun W (h : Ops W (.slice ad5 (decR s).length c5) (decR s)) => cencode_any h)
            generalize decE s = dE at *
            rcases W.out with ⟨rfl, h0⟩ | ⟨rfl, h0, h1⟩
            · clear KE W O5
              generalize (decR s).length = n at *
              subst h0
              go_wp2_with (go_at_call 9; (with_reducible refine (alive_any _).mono ?_); rintro e w7 ⟨rfl, d7⟩)
              go_ret
              exact ⟨rfl, B6.out.trans (d7.mono B6.out.size)⟩
            · rw [h0, h1] at KE
              clear W h0 h1
              generalize decR s = D at *
              go_wp2_with fail
              (with_reducible refine (KE.out _ O5.out).mono ?_)
              rintro e w6 ⟨rfl, b6⟩
              have B7 := Lib.hid (B6.out.trans (b6.mono B6.out.size))
              clear b6 B6 KE O5
              go_wp2_with (go_at_call 9; (with_reducible refine (alive_any _).mono ?_); rintro e w7 ⟨rfl, d7⟩)
              go_ret
              exact ⟨rfl, B7.out.trans (d7.mono B7.out.size)⟩

end Go.Proofs.Ytfcibccipkokoaa.Op
