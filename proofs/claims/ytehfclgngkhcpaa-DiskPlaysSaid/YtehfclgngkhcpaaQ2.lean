/- The document's disk: Sync, Crash, Write. -/
import Derived.Test.YtehfclgngkhcpaaQ1
import Derived.WalkMore
import Derived.Outline
namespace Go.Proofs.Ytehfclgngkhcpaa.Disk
open Go.RowKit
attribute [local go_sem ↓] Go.wp_at_zero Go.wp_at_succ

/-- some of the writes are sure -/
def QPart (p : Nat) (d : D) (F : Nat → Prop) (w : World) (s : List (List UInt8)) (wr : World) : Prop := QRep wr p ⟨s, d.loose, d.fuse⟩ F ∧ Touch F w wr
set_option maxRecDepth 100000 in
theorem info88 : (Try.prog.info? 121).map (·.size) = some 2 := by kernel_rfl

theorem kept_take_len : ∀ (l : List (Nat × List UInt8)) (keep : List Bool), kept (l.take keep.length) keep = kept l keep
  | [], keep => by simp
  | x :: r, [] => by simp [kept]
  | x :: r, b :: bs => by
    have := kept_take_len r bs
    rw [List.length_cons, List.take_succ_cons]
    simp only [kept, this]

set_option maxRecDepth 100000 in
theorem qsync_down {w : World} {p : Nat} {d : D} {F : Nat → Prop} (h : QRep w p d F) (hf : d.fuse = 0) : Calls Try.prog 53 #[.pointer (some ⟨p, 0, none⟩)] w fun e w' => e = .returned (.int .i64 40) ∧ w = w' := by
  obtain ⟨gs, sc, lv, L, _⟩ := h.lay
  have c2 := L.cell2
  rw [hf] at c2
  clear L h
  go_enter Try.func53, Try.ntmps53
  go_wp2
  go_ret
  exact ⟨rfl, rfl⟩

set_option maxRecDepth 100000 in
set_option maxHeartbeats 2000000 in
theorem qsync_any {w : World} {p : Nat} {d : D} {F : Nat → Prop} (h : QRep w p d F) (hf : d.fuse ≠ 0) (hl : d.loose.length ≤ 4611686018427387904) :
    Calls Try.prog 53 #[.pointer (some ⟨p, 0, none⟩)] w fun e w' => e = .returned (.int .i64 0) ∧ (QRep w' p d.sync F ∧ Touch F w w') := by
  have hb := qburn_any h
  obtain ⟨gs, sc, lv, L, _⟩ := h.lay
  have c2 := L.cell2
  have e1 : (d.fuse == 0) = false := by simpa using hf
  clear L h
  go_enter Try.func53, Try.ntmps53
  go_wp2_with fail
  refine hb.mono ?_
  rintro e w1 ⟨rfl, h1⟩
  have P0 : QPart p (d.setFuse (burnt d.fuse)) F w (settleAll d.sure (d.loose.take 0)) w1 := h1
  have HP := Lib.hid P0
  clear P0 h1 hb c2 e1 hf
  go_wp2_with fail
  go_loopw [3] (fun i wr => ∃ k : Nat, k ≤ d.loose.length ∧ i = .int .i64 k ∧ QPart p (d.setFuse (burnt d.fuse)) F w (settleAll d.sure (d.loose.take k)) wr) (fun i _ => d.loose.length - (intOf i).toNat)
  case atStart => exact ⟨0, by omega, by go_num, HP.out⟩
  case round =>
    obtain ⟨k, hk, rfl, hp⟩ := hrel
    clear HP
    obtain ⟨gs, sc, lv, L, f1, _⟩ := hp.1.lay
    have c1 := L.cell1
    obtain ⟨a, cap, rfl⟩ := L.form
    have hlen : (D.mk (settleAll d.sure (d.loose.take k)) (d.setFuse (burnt d.fuse)).loose (d.setFuse (burnt d.fuse)).fuse).loose.length = d.loose.length := rfl
    rw [hlen] at c1
    by_cases hlt : k < d.loose.length
    · have hx : d.loose[k]? = some d.loose[k] := List.getElem?_eq_getElem hlt
      obtain ⟨g, cap', hv, _, _⟩ := L.loose.form (by show 0 < d.loose.length; omega)
      simp at hv
      obtain ⟨rfl, rfl⟩ := hv.1, hv.2
      obtain ⟨l0, l1⟩ := L.looseAt (k := k) hx
      have hr : wr.rangeAt g (k * 2) [.int .i64 (d.loose[k].1 : Int), strV d.loose[k].2] := fun j v hv => by
        match j, hv with
        | 0, hv => simp at hv; subst hv; exact l0
        | 1, hv => simp at hv; subst hv; exact l1
      have hc := qkeep_any hp.1 (x := d.loose[k]) (List.mem_of_getElem? hx)
      have e1 : settle (settleAll d.sure (d.loose.take k)) d.loose[k] = settleAll d.sure (d.loose.take (k + 1)) := by
        rw [List.take_succ_eq_append_getElem hlt, settleAll_snoc]
      have HC := Lib.hid hc
      have T := Lib.hid hp.2
      have E := Lib.hid e1
      have b0 : (0 : Int) ≤ (k : Int) := Int.natCast_nonneg _
      have b1 : (k : Int) < (d.loose.length : Int) := by omega
      clear hc hp e1 hx L hlen
      obtain ⟨s, hs⟩ : ∃ s : ByteArray, strV d.loose[k].2 = .string s := ⟨_, rfl⟩
      rw [hs] at HC hr l1
      clear hs
      generalize d.loose[k].1 = i at *
      go_wp2_with fail
      refine HC.out.mono ?_
      rintro e w' ⟨rfl, hq⟩
      rw [E.out] at hq
      have HP2 := Lib.hid (show QPart p (d.setFuse (burnt d.fuse)) F w (settleAll d.sure (d.loose.take (k + 1))) w' from ⟨hq.1, T.out.trans' hq.2⟩)
      clear hq HC T E
      go_wp2_with fail
      go_roundw
      case rel => exact ⟨k + 1, by omega, by go_num, HP2.out⟩
      case measure => simp [intOf]; omega
    · obtain rfl : k = d.loose.length := by omega
      have fr := L.free 1
      rw [List.take_length] at hp
      have hf := hp.1.forget
      have HH := Lib.hid (show QRep (wr.setCell ⟨p, 1, none⟩ (.slice none 0 0)) p d.sync F ∧ Touch F w (wr.setCell ⟨p, 1, none⟩ (.slice none 0 0)) from ⟨hf.1, hp.2.trans' hf.2⟩)
      clear hp hf L
      go_wp2_with fail
      go_ret
      exact ⟨rfl, HH.out⟩

set_option maxRecDepth 100000 in
set_option maxHeartbeats 2000000 in
theorem qcrash_any {w : World} {p : Nat} {d : D} {F : Nat → Prop} (h : QRep w p d F) (hl : d.loose.length ≤ 4611686018427387904) {kv : Value} {keep : List Bool} (hk : Bools w kv keep) (hkl : keep.length ≤ 4611686018427387904) (hF : keep ≠ [] → ∀ b, kv.ownBlock = some b → ¬ F b) :
    Calls Try.prog 56 #[.pointer (some ⟨p, 0, none⟩), kv] w fun e w' => e = .returned (.tuple #[]) ∧ (QRep w' p (d.crash keep) F ∧ Touch F w w') := by
  have P0 : QPart p d F w (settleAll d.sure (kept (d.loose.take 0) keep)) w := ⟨by simp only [List.take_zero, kept]; exact h, Touch.refl _ _⟩
  have HP := Lib.hid P0
  have HK := Lib.hid hk
  have HF := Lib.hid hF
  obtain ⟨ka, kc, rfl, _⟩ := hk
  clear P0 h hF
  go_enter Try.func56, Try.ntmps56
  go_wp2_with fail
  go_loopw [4] (fun i wr => ∃ k : Nat, k ≤ d.loose.length ∧ k ≤ keep.length ∧ i = .int .i64 k ∧ QPart p d F w (settleAll d.sure (kept (d.loose.take k) keep)) wr) (fun i _ => d.loose.length - (intOf i).toNat)
  case atStart => exact ⟨0, by omega, by omega, by go_num, HP.out⟩
  case round =>
    obtain ⟨k, hk, hk2, rfl, hp⟩ := hrel
    clear HP
    obtain ⟨gs, sc, lv, L, f1, _⟩ := hp.1.lay
    have c1 := L.cell1
    obtain ⟨a, cap, rfl⟩ := L.form
    have hlen : (D.mk (settleAll d.sure (kept (d.loose.take k) keep)) d.loose d.fuse).loose.length = d.loose.length := rfl
    rw [hlen] at c1
    have fin : ∀ (wr : World), QRep wr p ⟨settleAll d.sure (kept d.loose keep), d.loose, d.fuse⟩ F → QRep ((wr.setCell ⟨p, 1, none⟩ (.slice none 0 0)).setCell ⟨p, 2, none⟩ (.int .i64 (-1))) p (d.crash keep) F ∧ Touch F wr ((wr.setCell ⟨p, 1, none⟩ (.slice none 0 0)).setCell ⟨p, 2, none⟩ (.int .i64 (-1))) := fun wr hr => by
      have h1 := hr.forget
      have h2 := h1.1.setFuse (n := -1) (by omega) (by omega)
      exact ⟨h2.1, h1.2.trans' h2.2⟩
    by_cases hlt : k < d.loose.length
    · have hx : d.loose[k]? = some d.loose[k] := List.getElem?_eq_getElem hlt
      have hkt := kept_take k d.loose keep _ hx
      by_cases hin : k < keep.length
      · have g1 : decide (k < keep.length) = true := decide_eq_true hin
        have hb : keep[k]? = some keep[k] := List.getElem?_eq_getElem hin
        obtain ⟨ka', kc', hv, hcell⟩ := HK.out
        obtain ⟨x, o, rfl, hcl0⟩ := hcell k _ hb
        clear hcell fin
        simp at hv
        obtain ⟨rfl, rfl⟩ := hv
        have hcl : wr.cell? ⟨x, o + k, none⟩ = some (.bool keep[k]) := (World.cell?_of_block (hp.2.block x (block_lt_of_cell hcl0) (HF.out (fun e => by rw [e] at hin; simp at hin) x rfl))).trans hcl0
        rw [hb] at hkt
        have b0 : (0 : Int) ≤ (k : Int) := Int.natCast_nonneg _
        have b1 : (k : Int) < (d.loose.length : Int) := by omega
        have b2 : (k : Int) < (keep.length : Int) := by omega
        by_cases hbt : keep[k] = true
        · rw [hbt] at hcl hkt
          rw [if_pos rfl] at hkt
          obtain ⟨g, cap', hv, _, _⟩ := L.loose.form (by show 0 < d.loose.length; omega)
          simp at hv
          obtain ⟨rfl, rfl⟩ := hv.1, hv.2
          obtain ⟨l0, l1⟩ := L.looseAt (k := k) hx
          have hc := qkeep_any hp.1 (x := d.loose[k]) (List.mem_of_getElem? hx)
          have e1 : settle (settleAll d.sure (kept (d.loose.take k) keep)) d.loose[k] = settleAll d.sure (kept (d.loose.take (k + 1)) keep) := by rw [hkt, settleAll_snoc]
          have HC := Lib.hid hc
          have T := Lib.hid hp.2
          have E := Lib.hid e1
          clear hc hp e1 hx hkt hb hbt hcl0 L hlen
          obtain ⟨s, hs⟩ : ∃ s : ByteArray, strV d.loose[k].2 = .string s := ⟨_, rfl⟩
          rw [hs] at HC l1
          clear hs
          generalize d.loose[k].1 = i at *
          go_wp2_with fail
          refine HC.out.mono ?_
          rintro e w' ⟨rfl, hr⟩
          rw [E.out] at hr
          have HP2 := Lib.hid (show QPart p d F w (settleAll d.sure (kept (d.loose.take (k + 1)) keep)) w' from ⟨hr.1, T.out.trans' hr.2⟩)
          clear hr HC T E
          go_wp2_with fail
          go_roundw
          case rel => exact ⟨k + 1, by omega, by omega, by go_num, HP2.out⟩
          case measure => simp [intOf]; omega
        · have hbf : keep[k] = false := by simpa using hbt
          rw [hbf] at hcl hkt
          rw [if_neg (by simp)] at hkt
          rw [← hkt] at hp
          have HP2 := Lib.hid hp
          clear hp hx hkt hb hbt hcl0 hbf L hlen
          go_wp2_with fail
          go_roundw
          case rel => exact ⟨k + 1, by omega, by omega, by go_num, HP2.out⟩
          case measure => simp [intOf]; omega
      · have g1 : decide (k < keep.length) = false := decide_eq_false hin
        have ek : kept (d.loose.take k) keep = kept d.loose keep := by
          have hkk : k = keep.length := by omega
          rw [hkk]; exact kept_take_len _ _
        have fr := L.free 1
        have fr2 := L.free 2
        have c2 := L.cell2
        rw [ek] at hp
        have hf := fin wr hp.1
        have HH := Lib.hid (show QRep ((wr.setCell ⟨p, 1, none⟩ (.slice none 0 0)).setCell ⟨p, 2, none⟩ (.int .i64 (-1))) p (d.crash keep) F ∧ Touch F w _ from ⟨hf.1, hp.2.trans' hf.2⟩)
        clear hp hf L hx hkt ek fin hlen
        go_wp2_with fail
        go_end0
        exact ⟨rfl, HH.out⟩
    · obtain rfl : k = d.loose.length := by omega
      have fr := L.free 1
      have fr2 := L.free 2
      have c2 := L.cell2
      rw [List.take_length] at hp
      have hf := fin wr hp.1
      have HH := Lib.hid (show QRep ((wr.setCell ⟨p, 1, none⟩ (.slice none 0 0)).setCell ⟨p, 2, none⟩ (.int .i64 (-1))) p (d.crash keep) F ∧ Touch F w _ from ⟨hf.1, hp.2.trans' hf.2⟩)
      clear hp hf L fin hlen
      go_wp2_with fail
      go_end0
      exact ⟨rfl, HH.out⟩

end Go.Proofs.Ytehfclgngkhcpaa.Disk
