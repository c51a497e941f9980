/- Load, the document's. -/
import Derived.Test.YtehfclgngkhcpaaQ6
namespace Go.Proofs.Ytehfclgngkhcpaa.Disk
open Go.RowKit
attribute [local go_sem ↓] Go.wp_at_zero Go.wp_at_succ

theorem QRep.setS {w : World} {p : Nat} {d : D} {F : Nat → Prop} {gs sc : Nat} {lv : Value} (h : QRep w p d F) (L : QLay w p gs sc lv d) (f1 : F p) (f2 : F gs) (f3 : ∀ b, lv.ownBlock = some b → F b) {k : Nat} {t : List UInt8} (hk : k < d.sure.length) (hl : t.length = 128) :
    QRep (w.setCell ⟨gs, k, none⟩ (strV t)) p ⟨d.sure.set k t, d.loose, d.fuse⟩ F ∧ Touch F w (w.setCell ⟨gs, k, none⟩ (strV t)) := by
  have hsl : (d.sure.set k t).length = d.sure.length := by simp
  refine ⟨⟨⟨by rw [hsl]; exact h.ok.one, by rw [hsl]; exact h.ok.most, settle_each (x := (k, t)) h.ok.each hl, by rw [hsl]; exact h.ok.there, h.ok.low, h.ok.high⟩, ⟨gs, sc, lv, ⟨?_, ?_, ?_⟩, f1, f2, f3⟩, fun b hb => by simpa using h.below b hb⟩, (Touch.refl F w).setCell (x := ⟨gs, k, none⟩) f2 _⟩
  · rw [heap_setCell_other _ _ _ _ (by exact L.ne), hsl]; exact L.head
  · have h2 := ownsRow_setCells L.sure k [strV t] (by simp; exact hk)
    have e2 : (strs d.sure).take k ++ [strV t] ++ (strs d.sure).drop (k + [strV t].length) = strs (d.sure.set k t) := by
      rw [← strs_set, List.set_eq_take_append_cons_drop, if_pos (by rw [strs_len]; exact hk)]
      simp
    rw [e2] at h2
    rw [hsl]
    exact h2
  · exact ownsRow_far L.loose fun b hb => heap_setCell_other _ _ _ _ ((L.ne1 hb).2)

set_option maxRecDepth 100000 in
theorem qload_arg (img : ByteArray) (w : World) (hm : img.size ≤ 140737488351232) (h : img.size % 128 ≠ 0 ∨ img.size / 128 < 1 ∨ 16384 < img.size / 128) : Calls Try.prog 14 #[.string img] w fun e w' => e = .returned (.pointer none) ∧ w = w' := by
  by_cases h0 : img.size % 128 = 0
  · have h1 : img.size / 128 < 1 ∨ 16384 < img.size / 128 := by rcases h with h | h; exact (h h0).elim; exact h
    have m := qnew_arg ((img.size : Int) / 128) w (by omega)
    have e1 : ((img.size : Int) % 128 != 0) = false := by simp; omega
    clear h h0 h1
    go_enter Try.func14, Try.ntmps14
    go_wp2_with fail
    refine m.mono ?_
    rintro e w' ⟨rfl, rfl⟩
    clear m
    go_wp2_with fail
    go_ret
    exact ⟨rfl, rfl⟩
  · have e1 : ((img.size : Int) % 128 != 0) = true := by simp; omega
    clear h h0
    go_enter Try.func14, Try.ntmps14
    go_wp2_with fail
    go_ret
    exact ⟨rfl, rfl⟩

theorem cut_part2 (img : ByteArray) (n k : Nat) (hn : img.size = n * 128) (hk : k < n) : Value.string (img.extract ((k : Int) * 128).toNat ((k : Int) * 128 + 128).toNat) = strV (part img.data.toList k) := by
  have e : ((k : Int) * 128).toNat = k * 128 := by omega
  have e2 : ((k : Int) * 128 + 128).toNat = k * 128 + 128 := by omega
  rw [e, e2]
  unfold strV
  congr 1
  apply ByteArray.ext
  rw [ByteArray.data_extract]
  apply Array.toList_inj.1
  rw [Array.toList_extract, List.extract_eq_take_drop]
  unfold part
  rw [Nat.add_sub_cancel_left]

def QLoadS (w : World) (p : Nat) (F : Nat → Prop) (img : List UInt8) (n k : Nat) (wr : World) : Prop := QRep wr p ⟨lset img n k, [], -1⟩ F ∧ Below w.heap.size w wr

set_option maxRecDepth 100000 in
set_option maxHeartbeats 2000000 in
theorem qload_any (img : ByteArray) (w : World) (n : Nat) (hn : img.size = n * 128) (h1 : 1 ≤ n) (h2 : n ≤ 16384) :
    Calls Try.prog 14 #[.string img] w fun e w' => ∃ p, e = .returned (.pointer (some ⟨p, 0, none⟩)) ∧ (QRep w' p ⟨parts img.data.toList n, [], -1⟩ (Fresh w w') ∧ Below w.heap.size w w') := by
  have m := qnew_any n w h1 h2
  have e1 : ((img.size : Int) % 128 != 0) = false := by simp; omega
  go_enter Try.func14, Try.ntmps14
  go_wp2_with fail
  refine m.mono ?_
  rintro e w1 ⟨rfl, hr, hb⟩
  have P0 : QLoadS w w.heap.size (Fresh w w1) img.data.toList n 0 w1 := ⟨by rw [lset_zero]; exact hr, hb⟩
  obtain ⟨p, hp0⟩ : ∃ p, p = w.heap.size := ⟨_, rfl⟩
  rw [← hp0] at P0 ⊢
  have HP := Lib.hid P0
  obtain ⟨F, hFe⟩ : ∃ F, F = Fresh w w1 := ⟨_, rfl⟩
  rw [← hFe] at HP
  have hF : ∀ b, F b → w.heap.size ≤ b := fun b hb => by rw [hFe] at hb; exact hb.1
  have HFF := Lib.hid hF
  have fin : ∀ wr, QRep wr p ⟨parts img.data.toList n, [], -1⟩ F → w1.heap.size ≤ wr.heap.size → QRep wr p ⟨parts img.data.toList n, [], -1⟩ (Fresh w wr) := fun wr h1 hs => h1.mono (fun b hb => by
    rw [hFe] at hb
    exact ⟨hb.1, Nat.lt_of_lt_of_le hb.2 hs⟩) (fun b hb => hb.2)
  have FIN := Lib.hid fin
  have HN := Lib.hid hn
  have him : img.data.toList.length = n * 128 := hn
  clear m hr P0 hb hFe hF e1 fin hp0
  go_wp2_with fail
  go_loopw [4] (fun i wr => ∃ k : Nat, k ≤ n ∧ i = .int .i64 k ∧ QLoadS w p F img.data.toList n k wr ∧ w1.heap.size ≤ wr.heap.size) (fun i _ => n - (intOf i).toNat)
  case atStart => exact ⟨0, by omega, by go_num, HP.out, Nat.le_refl _⟩
  case round =>
    obtain ⟨k, hk, rfl, hp, hs1⟩ := hrel
    clear HP
    obtain ⟨gs, sc, lv, L, f1, f2, f3⟩ := hp.1.lay
    have c0 := L.cell0
    have hll : (D.mk (lset img.data.toList n k) [] (-1)).sure.length = n := lset_len hk
    rw [hll] at c0
    by_cases hlt : k < n
    · have hpl := part_len him hlt
      have t1 := ownsRow_there L.sure k 1 (by rw [hll]; omega) 0 (by omega)
      rw [Nat.add_zero] at t1
      obtain ⟨us, hus⟩ : ∃ us, _ = some us := Option.isSome_iff_exists.1 t1.1
      have huf := t1.2
      have hst := QRep.setS (hp.1.later ((Below.refl _ wr).drew)) (w := wr.drew) ⟨L.head, ownsRow_far L.sure fun _ _ => rfl, ownsRow_far L.loose fun _ _ => rfl⟩ f1 f2 f3 (k := k) (by rw [hll]; exact hlt) hpl
      rw [show (D.mk (lset img.data.toList n k) [] (-1)).sure.set k (part img.data.toList k) = lset img.data.toList n (k + 1) from lset_step hlt, ← cut_part2 img n k HN.out hlt] at hst
      have ST := Lib.hid (show QLoadS w p F img.data.toList n (k + 1) (wr.drew.setCell ⟨gs, k, none⟩ (Value.string (img.extract ((k : Int) * 128).toNat ((k : Int) * 128 + 128).toNat))) ∧ w1.heap.size ≤ (wr.drew.setCell ⟨gs, k, none⟩ (Value.string (img.extract ((k : Int) * 128).toNat ((k : Int) * 128 + 128).toNat))).heap.size from ⟨⟨hst.1, hp.2.trans ((Touch.refl F wr).drew.trans' hst.2 |>.below hp.2.size HFF.out)⟩, Nat.le_trans hs1 hst.2.size⟩)
      have b0 : (0 : Int) ≤ (k : Int) := Int.natCast_nonneg _
      have b1 : (k : Int) < (n : Int) := by omega
      have wk : IntKind.i64.wrap ((k : Int) * 128) = (k : Int) * 128 := IntWalk.i64_in _ (by omega)
      have wk2 : IntKind.i64.wrap ((k : Int) * 128 + 128) = (k : Int) * 128 + 128 := IntWalk.i64_in _ (by omega)
      have b2 : (0 : Int) ≤ (k : Int) * 128 := by omega
      have b3 : (k : Int) * 128 ≤ (k : Int) * 128 + 128 := by omega
      have b4 : (k : Int) * 128 + 128 ≤ (n : Int) * 128 := by omega
      clear hst L hp f3 f1 f2 t1
      go_wp2_with fail
      go_still_tail 13, (by kernel_rfl)
      go_wp2_with fail
      go_roundw
      case rel => exact ⟨k + 1, by omega, by go_num, ST.out⟩
      case measure => simp [intOf]; omega
    · obtain rfl : k = n := by omega
      have HE := Lib.hid (show QRep wr p ⟨parts img.data.toList k, [], -1⟩ (Fresh w wr) ∧ Below w.heap.size w wr from ⟨FIN.out wr (by rw [← lset_end]; exact hp.1) hs1, hp.2⟩)
      clear hp L
      go_wp2_with fail
      go_ret
      exact ⟨p, rfl, HE.out⟩

end Go.Proofs.Ytehfclgngkhcpaa.Disk
