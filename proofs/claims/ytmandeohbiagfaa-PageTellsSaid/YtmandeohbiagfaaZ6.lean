/-
  Memory: what a call of the document's area leaves.
  Walks: the document's Compact.
  Walks: the document's Put.
  Walks: the document's Bytes.
  Walks: the document's encoding.
  Walks: the answers that the document fixes.
  Walks: what is torn.
  Pages that come in.
  Walks: heavy.
  Memory: rows and truths that came in are appended to a new slice.
  Memory: an area that the document loads.
-/
import Derived.Deep.Slices
import Derived.Deep.Fields
import Derived.Deep.Grids
import Derived.ChangeSame
import Derived.SizedLaws
import Derived.SliceStrings
import Derived.OpenShut
import Derived.Test.YtmandeohbiagfaaZ5
namespace Go.Proofs.Ytmandeohbiagfaa.Slot
open Go.RowKit

theorem Dl.shape3 {w : World} {v : Value} {l : List (Nat × Nat)} (h : Dl w v l) : ∃ ad n cap, v = .slice ad n cap := by
  obtain ⟨ad, cap, rfl⟩ := h.shape
  exact ⟨ad, _, cap, rfl⟩
/-- a call of the document's area: what it leaves -/
def QP (w : World) (q : Nat) (F : Nat → Prop) (a : A) (w' : World) : Prop := Rf w' q a (grew F w w') ∧ Touch F w w'
theorem QP.of {w w' : World} {q : Nat} {F : Nat → Prop} {a : A} (h : Rf w' q a F ∧ Touch F w w') : QP w q F a w' := ⟨h.1.grown, h.2⟩

theorem QP.dir {w w4 : World} {q : Nat} {F : Nat → Prop} {a : A} (H : Rf w q a F) (B4 : Below w.heap.size w w4) {v4 : Value} {l : List (Nat × Nat)} (t4 : Dl w4 v4 l) (b4 : ∀ b, v4.ownBlock = some b → w.heap.size ≤ b) : QP w q F ⟨a.cells, a.low, l⟩ (w4.setCell ⟨q, 2, none⟩ v4) := by
  have h1 := ((H.later B4).grown (w0 := w)).newDir t4 (fun b hb => .inr ⟨b4 b hb, (t4.lt b hb).2⟩)
  obtain ⟨_, _, _, _, f1, _⟩ := H.lay
  refine ⟨h1.1.mono ?_ ?_, (Touch.ofNew B4).setCell (x := ⟨q, 2, none⟩) f1 _⟩
  · rintro b (hb | hb)
    · exact .inl hb
    · exact .inr ⟨hb.1, by simpa using hb.2⟩
  · rintro b (hb | hb)
    · exact h1.1.below b (.inl hb)
    · exact hb.2
theorem QP.step {w w1 w2 : World} {q : Nat} {F : Nat → Prop} {a b : A} (h1 : QP w q F a w1) (h2 : Rf w2 q b (grew F w w1) ∧ Touch (grew F w w1) w1 w2) : QP w q F b w2 :=
  ⟨h2.1.mono (by
    rintro x (hx | hx)
    · exact .inl hx
    · exact .inr ⟨hx.1, Nat.lt_of_lt_of_le hx.2 h2.2.size⟩) (by
    rintro x (hx | hx)
    · exact h2.1.below x (.inl hx)
    · exact hx.2), h1.2.step h2.2⟩
theorem QP.next {w w1 w2 : World} {q : Nat} {F : Nat → Prop} {a b : A} (h1 : QP w q F a w1) (h2 : QP w1 q (grew F w w1) b w2) : QP w q F b w2 :=
  ⟨h2.1.mono (by
    rintro x ((hx | hx) | hx)
    · exact .inl hx
    · exact .inr ⟨hx.1, Nat.lt_of_lt_of_le hx.2 h2.2.size⟩
    · exact .inr ⟨Nat.le_trans h1.2.size hx.1, hx.2⟩) (by
    rintro x (hx | hx)
    · exact h2.1.below x (.inl (.inl hx))
    · exact hx.2), h1.2.step h2.2⟩
theorem QP.later {w w1 w2 : World} {q : Nat} {F : Nat → Prop} {a : A} (h1 : QP w q F a w1) (t : Below w1.heap.size w1 w2) : QP w q F a w2 :=
  h1.step ⟨h1.1.later t, Touch.ofNew t⟩

section
variable {w : World} {q : Nat} {a : A} {F : Nat → Prop}
theorem Rf.cell0 (H : Rf w q a F) : ∃ h cB, w.cell? ⟨q, 0, none⟩ = some (.slice (some ⟨h, 0, none⟩) a.n cB) := by
  obtain ⟨h, cB, v, L, _⟩ := H.lay
  exact ⟨h, cB, L.cell0⟩
theorem Rf.len_cell (H : Rf w q a F) : ∃ ad cap, w.cell? ⟨q, 2, none⟩ = some (.slice ad a.dir.length cap) := by
  obtain ⟨h, cB, v, L, _⟩ := H.lay
  obtain ⟨ad, cap, rfl⟩ := L.dl.shape
  exact ⟨ad, cap, L.cell2⟩
theorem Rf.lt (H : Rf w q a F) : q < w.heap.size := by
  obtain ⟨h, cB, v, L, f1, _⟩ := H.lay
  exact H.below q f1
end

end Go.Proofs.Ytmandeohbiagfaa.Slot

namespace Go.Proofs.Ytmandeohbiagfaa.Slot
open Go.RowKit
attribute [local go_sem ↓] Go.wp_at_zero Go.wp_at_succ

section
variable {w : World} {q : Nat} {a : A} {F : Nat → Prop}
theorem strB_one (t : List UInt8) : (strB t).data.toList = t := rfl
/-- one directory entry, stored -/
theorem Rf.dirAt (H : Rf w q a F) {ad : Option Addr} {cap : Nat} (h2 : w.cell? ⟨q, 2, none⟩ = some (.slice ad a.dir.length cap)) {k : Nat} (hk : k < a.dir.length) (x : Nat × Nat) :
    ∃ g, ad = some ⟨g, 0, none⟩ ∧ w.cell? ⟨g, k * 2, none⟩ = some (.int .i64 ((a.at k).1 : Int)) ∧ w.cell? ⟨g, k * 2 + 1, none⟩ = some (.int .i64 ((a.at k).2 : Int)) ∧ w.frozen? ⟨g, k * 2, none⟩ = false ∧ w.frozen? ⟨g, k * 2 + 1, none⟩ = false ∧ F g ∧ g ≠ q ∧
      Rf ((w.setCell ⟨g, k * 2, none⟩ (.int .i64 (x.1 : Int))).setCell ⟨g, k * 2 + 1, none⟩ (.int .i64 (x.2 : Int))) q ⟨a.cells, a.low, a.dir.set k x⟩ F ∧ Touch F w ((w.setCell ⟨g, k * 2, none⟩ (.int .i64 (x.1 : Int))).setCell ⟨g, k * 2 + 1, none⟩ (.int .i64 (x.2 : Int))) := by
  obtain ⟨g, rfl, hR, hT⟩ := H.setDir h2 hk x
  obtain ⟨h, cB, v, L, f1, f2, f3⟩ := H.lay
  have h3 := L.cell2
  rw [h2] at h3
  simp only [Option.some.injEq] at h3
  subst h3
  obtain ⟨g', e, d1, d2, d3, d4⟩ := L.dl.at hk
  simp only [Option.some.injEq, Addr.mk.injEq, and_true] at e
  subst e
  exact ⟨g, rfl, d1, d2, d3, d4, f3 g rfl, (L.ne1 (b := g) rfl).1, hR, hT⟩

/-- Compact's state: the first k texts are moved -/
structure QC (w0 : World) (q : Nat) (F : Nat → Prop) (a : A) (k : Nat) (v : Value) (L : List ByteArray) (w : World) : Prop where
  rf : Rf w q (a.mid k) F
  tch : Touch F w0 w
  tx : Tx w0 w v L
theorem Tx.touchF {W0 w w' : World} {v : Value} {l : List ByteArray} {F : Nat → Prop} (h : Tx W0 w v l) (t : Touch F w w') (hF : ∀ b, F b → b < W0.heap.size) : Tx W0 w' v l :=
  h.far t.size fun x hx => t.block x (h.lt x hx) fun hf => by have := (h.own.lt x hx).1; have := hF x hf; omega

set_option maxRecDepth 100000 in
set_option maxHeartbeats 8000000 in
theorem qcompact_any (hk : a.ok) (H : Rf w q a F) : Calls Try.prog 49 #[.pointer (some ⟨q, 0, none⟩)] w fun e w' => e = .returned (.int .i64 ((a.compact.gap : Int) - (a.gap : Int))) ∧ (Rf w' q a.compact F ∧ Touch F w w') := by
  have hn40 := hk.hi
  have hlow := hk.low
  have hfin := hk.fin
  have hd : a.dir.length ≤ 2000 := by unfold A.fin at hfin; omega
  have gp := qgap_any H (by omega) (by omega)
  have eg : (a.low : Int) - (a.fin : Int) = (a.gap : Int) := by unfold A.gap; omega
  rw [eg] at gp
  have GP := Lib.hid gp
  have hFlt := Lib.hid H.below
  have HH := Lib.hid H
  have HK := Lib.hid hk
  obtain ⟨n, hn⟩ : ∃ n, n = a.dir.length := ⟨_, rfl⟩
  have HN := Lib.hid hn
  have n1 : (n : Int) ≤ 2000 := by omega
  have n0 : (0 : Int) ≤ (n : Int) := Int.natCast_nonneg _
  have hn2 : n ≤ 2000 := by omega
  clear gp H hk eg hn hd
  go_enter Try.func49, Try.ntmps49
  go_wp2_with fail
  refine GP.out.mono ?_
  rintro e w1 ⟨rfl, b1⟩
  have H1 := Lib.hid (HH.out.later b1)
  have B1 := Lib.hid b1
  have TX0 := Lib.hid (Tx.nil w b1.size)
  clear b1 GP
  go_wp2_with fail
  go_loopw [4, 5] (fun v i wr => ∃ (k : Nat) (L : List ByteArray), k ≤ n ∧ i = .int .i64 k ∧ L.length = k ∧ (∀ j, j < k → (L.getD j ⟨#[]⟩) = strB (a.text j)) ∧ Tx w wr v L ∧ Below w.heap.size w wr) (fun _ i _ => n - (intOf i).toNat)
  case atStart => exact ⟨0, [], by omega, by go_num, rfl, fun j hj => by omega, TX0.out, B1.out⟩
  case round =>
    obtain ⟨k, L, hk, rfl, hL, hLt, htx, hb⟩ := hrel
    have Hr := HH.out.later hb
    obtain ⟨ad, cap, c2⟩ := Hr.len_cell
    rw [← HN.out] at c2
    clear TX0 B1 H1
    by_cases hlt : k < n
    · have he := HK.out.each k (by rw [← HN.out]; exact hlt)
      have tx := qtext_any Hr (k := k) (by rw [← HN.out]; exact hlt) (by rw [← HN.out]; omega) he.2 (by omega)
      have QT := Lib.hid tx
      have HTX := Lib.hid htx
      have HB := Lib.hid hb
      have HLT := Lib.hid hLt
      have HL := Lib.hid hL
      clear tx Hr htx hb hLt he hL
      generalize hS : strB (a.text k) = S at *
      have HS := Lib.hid hS
      clear hS
      go_wp2_with fail
      refine QT.out.mono ?_
      rintro e w2 ⟨rfl, b2⟩
      have TX2 := Lib.hid (HTX.out.later b2)
      have B2 := Lib.hid (HB.out.trans (b2.mono HB.out.size))
      have TM := Lib.hid (Tx.made w (w := w2) [S] B2.out.size (by simp))
      have BA := Lib.hid (show Below w2.heap.size w2 (w2.alloc (.cells #[.string S] 9)) from (Below.refl _ _).alloc (Nat.le_refl _) _)
      have HL1 := Lib.hid (show L.length + [S].length ≤ 1000000 by rw [HL.out]; simp; omega)
      have SA := Lib.hid (show SrcOf (w2.alloc (.cells #[.string S] 9)) (.slice (some ⟨w2.heap.size, 0, none⟩) 1 1) [S].length ([S].map Value.string) from TM.out.all)
      clear b2 QT HTX
      go_wp2_with (first | (refine wpList_app (W0 := w) (news := [S]) rfl _ _ rfl (TX2.out.later BA.out) SA.out HL1.out rfl rfl ?_; intro v3 w3 t3 g3))
      have B3 := Lib.hid ((B2.out.alloc B2.out.size (.cells #[.string S] 9)).grown g3 (by have := B2.out.size; simp; omega) (fun x hx => (TX2.out.own.lt x hx).1))
      have T3 := Lib.hid t3
      clear t3 g3
      go_wp2_with fail
      go_roundw
      case rel =>
        refine ⟨k + 1, L ++ [S], by omega, by go_num, by rw [List.length_append, HL.out]; rfl, fun j hj => ?_, T3.out, B3.out⟩
        rw [List.getD_eq_getElem?_getD]
        by_cases e : j < k
        · rw [List.getElem?_append_left (by rw [HL.out]; exact e), ← List.getD_eq_getElem?_getD]
          exact HLT.out j e
        · obtain rfl : j = k := by omega
          rw [List.getElem?_append_right (by rw [HL.out]; exact Nat.le_refl _), HL.out, Nat.sub_self, HS.out]
          rfl
      case measure => simp [intOf]; omega
    · obtain rfl : k = n := by omega
      obtain ⟨h, cB, c0⟩ := Hr.cell0
      have SL := Hr.setLow a.n
      have c1 : wr.cell? ⟨q, 1, none⟩ = some (.int .i64 (a.low : Int)) := by obtain ⟨_, _, _, L', _⟩ := Hr.lay; exact L'.cell1
      have fz : wr.frozen? ⟨q, 1, none⟩ = false := by obtain ⟨_, _, _, L', _⟩ := Hr.lay; exact L'.free 1
      have HR2 := Lib.hid SL.1
      have HT2 := Lib.hid ((Touch.ofNew hb : Touch F w wr).trans' SL.2)
      have HTX2 := Lib.hid (htx.touchF SL.2 hFlt.out)
      have HL := Lib.hid hL
      have HLT := Lib.hid hLt
      clear SL Hr htx hb hL hLt
      go_wp2_with fail
      generalize wr.setCell ⟨q, 1, none⟩ (.int .i64 (a.n : Int)) = W2 at *
      clear c0 c1 c2 fz
      obtain ⟨wo, ewo⟩ : ∃ wo : World, wo = wr := ⟨_, rfl⟩
      clear ewo
      obtain ⟨adt, cpt, hv4⟩ := HTX2.out.shape
      subst hv4
      go_loopw [6] (fun i wr => ∃ j : Nat, j ≤ k ∧ i = .int .i64 j ∧ Rf wr q (a.mid j) F ∧ Touch F w wr ∧ Tx w wr (.slice adt L.length cpt) L) (fun i _ => k - (intOf i).toNat)
      case atStart => exact ⟨0, by omega, by go_num, HR2.out, HT2.out, HTX2.out⟩
      case round =>
        obtain ⟨j, hj, rfl, hR, hT, htx⟩ := hrel
        clear HR2 HT2 HTX2
        obtain ⟨m1, m2, m3, m4, m5, m6⟩ := mid_all HK.out j (by rw [← HN.out]; exact hj)
        obtain ⟨ad, cap, c2⟩ := hR.len_cell
        rw [m2, ← HN.out] at c2
        by_cases hlt : j < k
        · have hja : j < a.dir.length := by rw [← HN.out]; exact hlt
          have tl := text_len HK.out hja
          have tk : tot (a.dir.take (j + 1)) = tot (a.dir.take j) + (a.at j).2 := tot_take hja
          have tle := tot_take_le a.dir (j + 1)
          have hr := HK.out.room
          have qb := qbelow_any hR (strB (a.text j)) (by rw [strB_size]; omega) (by omega) (by omega)
          rw [strB_size, strB_one] at qb
          obtain ⟨y, rfl, cy⟩ := htx.at (k := j) (by rw [HL.out]; exact hlt)
          rw [HLT.out j hlt] at cy
          have QB := Lib.hid qb
          have HTX := Lib.hid htx
          have HT := Lib.hid hT
          obtain ⟨z1, hz1⟩ : ∃ z1, z1 = (a.mid j).low - (a.text j).length := ⟨_, rfl⟩
          obtain ⟨z2, hz2⟩ : ∃ z2, z2 = (a.text j).length := ⟨_, rfl⟩
          rw [← hz1, ← hz2] at QB
          have hmid : a.mid (j + 1) = ⟨(a.mid j).lay (a.text j), z1, (a.mid j).dir.set j (z1, z2)⟩ := by rw [hz1, hz2]; rfl
          have HM := Lib.hid hmid
          have HM2 := Lib.hid m2
          have HLn := Lib.hid (show L.length = k from HL.out)
          clear qb htx hT m1 m2 m3 m4 m5 m6 tl tk tle hr hR hmid hz1 hz2
          generalize strB (a.text j) = S at *
          have j0 : (0 : Int) ≤ (j : Int) := Int.natCast_nonneg _
          have j1 : (j : Int) < (L.length : Int) := by have := HLn.out; omega
          have j2 : (j : Int) < (k : Int) := by omega
          go_wp2_with fail
          refine QB.out.mono ?_
          rintro e w5 ⟨rfl, hR5, hT5⟩
          have ba : Below w5.heap.size w5 (w5.alloc (.cells #[.int .i64 (z1 : Int), .int .i64 (z2 : Int)] 83)) := (Below.refl _ _).alloc (Nat.le_refl _) _
          obtain ⟨W6, hW6⟩ : ∃ W6, W6 = w5.alloc (.cells #[.int .i64 (z1 : Int), .int .i64 (z2 : Int)] 83) := ⟨_, rfl⟩
          have rn : W6.heap[w5.heap.size]? = some (.cells #[.int .i64 (z1 : Int), .int .i64 (z2 : Int)] 83 (0, 0)) := by rw [hW6]; exact heap_alloc_new _ _
          rw [← hW6] at ba
          have hR6 := hR5.later ba
          obtain ⟨ad6, cap6, c26⟩ := hR6.len_cell
          obtain ⟨gd, rfl, d1, d2, d3, d4, dF, dq, dR, dT⟩ := hR6.drew'.dirAt (ad := ad6) (cap := cap6) c26 (k := j) (by show j < (a.mid j).dir.length; rw [HM2.out]; exact hja) (z1, z2)
          have g0 : W6.cell? ⟨w5.heap.size, 0, none⟩ = some (.int .i64 (z1 : Int)) := by rw [cell_of_row _ _ _ _ _ _ rn]; rfl
          have g1 : W6.cell? ⟨w5.heap.size, 1, none⟩ = some (.int .i64 (z2 : Int)) := by rw [cell_of_row _ _ _ _ _ _ rn]; rfl
          have T6 := Lib.hid ((HT.out.trans' hT5).trans' (Touch.ofNew ba))
          have DR := Lib.hid (show Rf _ q (a.mid (j + 1)) F by rw [HM.out]; exact dR)
          have DT := Lib.hid dT
          have TX6 := Lib.hid (((HTX.out.touchF hT5 hFlt.out).later ba).later ((Below.refl _ _).drew))
          have c26' : W6.cell? ⟨q, 2, none⟩ = some (.slice (some ⟨gd, 0, none⟩) k cap6) := by
            rw [c26]
            show some (Value.slice _ (a.mid j).dir.length _) = _
            rw [HM2.out, ← HN.out]
          have d1' : W6.cell? ⟨gd, j * 2, none⟩ = _ := d1
          have d2' : W6.cell? ⟨gd, j * 2 + 1, none⟩ = _ := d2
          have d3' : W6.frozen? ⟨gd, j * 2, none⟩ = false := d3
          have d4' : W6.frozen? ⟨gd, j * 2 + 1, none⟩ = false := d4
          have HW6 := Lib.hid hW6
          clear hR5 hT5 ba hR6 c26 rn d1 d2 d3 d4 dR dT hW6 QB HTX HT c2 cy
          go_wp2_with (rw [← HW6.out])
          clear HW6
          (refine wp_region_still_tail 7 (by kernel_rfl) (by kernel_rfl) (still_of_quiet _ _ ?_); simp only [List.take_succ_cons, List.take_zero, List.drop_succ_cons, List.drop_zero]; (repeat (first | go_big_quiet_skip | (go_big_quiet_want; go_big_quiet_op; first | go_big_quiet_on | (apply Exists.intro; refine ⟨?_, ?_⟩; (first | fail); go_big_quiet_on)))); refine wpQuiet_nil ?_)
          go_wp2_with fail
          go_roundw
          case rel => exact ⟨j + 1, by omega, by go_num, DR.out, T6.out.drew.trans' DT.out, TX6.out.touchF DT.out hFlt.out⟩
          case measure => simp [intOf]; omega
        · obtain rfl : j = k := by omega
          rw [HN.out] at hR m3
          have hr := HK.out.room
          have hmn : (a.mid a.dir.length).n = a.n := by rw [HN.out] at m1; exact m1
          obtain ⟨lo, hlo⟩ : ∃ lo, lo = (a.mid a.dir.length).low := ⟨_, rfl⟩
          have hle : 0 + (List.replicate lo (0 : UInt8)).length ≤ (a.mid a.dir.length).cells.length := by
            rw [List.length_replicate]
            show 0 + lo ≤ (a.mid a.dir.length).n
            rw [hmn, hlo, List.take_length] at *
            omega
          have hcp : a.compact = ⟨putL (a.mid a.dir.length).cells 0 (List.replicate lo 0), lo, (a.mid a.dir.length).dir⟩ := by rw [hlo]; rfl
          obtain ⟨h7, cB7, c70⟩ := hR.cell0
          rw [hmn] at c70
          have c71 : wr.cell? ⟨q, 1, none⟩ = some (.int .i64 (lo : Int)) := by rw [hlo]; obtain ⟨_, _, _, L', _⟩ := hR.lay; exact L'.cell1
          have hlon : lo ≤ a.n := by rw [hlo]; rw [List.take_length] at m3; omega
          have HR7 := Lib.hid (show Rf wr q ⟨(a.mid a.dir.length).cells, lo, (a.mid a.dir.length).dir⟩ F by rw [hlo]; exact hR)
          have HT7 := Lib.hid hT
          have HCP := Lib.hid hcp
          have HLE := Lib.hid hle
          have HMN := Lib.hid (show (a.mid a.dir.length).cells.length = a.n from hmn)
          have HC70 := Lib.hid c70
          have lo0 : (0 : Int) ≤ (lo : Int) := Int.natCast_nonneg _
          have lo1 : (lo : Int) ≤ (a.n : Int) := by omega
          clear hR hT htx m1 m2 m3 m4 m5 m6 hr hmn hle hcp c70 hlo
          generalize (a.mid a.dir.length).cells = CS at *
          generalize (a.mid a.dir.length).dir = DS at *
          go_wp2_with fail
          obtain ⟨wo2, ewo2⟩ : ∃ wo : World, wo = wr := ⟨_, rfl⟩
          clear ewo2 c71 c2
          go_loopw [8] (fun i wr => ∃ m : Nat, m ≤ lo ∧ i = .int .i64 m ∧ Rf wr q ⟨putL CS 0 ((List.replicate lo (0 : UInt8)).take m), lo, DS⟩ F ∧ Touch F w wr ∧ wr.cell? ⟨q, 0, none⟩ = some (.slice (some ⟨h7, 0, none⟩) a.n cB7)) (fun i _ => lo - (intOf i).toNat)
          case atStart => exact ⟨0, by omega, by go_num, by rw [List.take_zero, putL_nil]; exact HR7.out, HT7.out, HC70.out⟩
          case round =>
            obtain ⟨m, hm, rfl, hR, hT, hc0⟩ := hrel
            clear HR7 HT7 HC70
            have c71 : wr.cell? ⟨q, 1, none⟩ = some (.int .i64 (lo : Int)) := by obtain ⟨_, _, _, L', _⟩ := hR.lay; exact L'.cell1
            by_cases hml : m < lo
            · have jn : ((List.replicate lo (0 : UInt8)).take m).length = m := by rw [List.length_take, List.length_replicate]; omega
              have nl : (putL CS 0 ((List.replicate lo (0 : UInt8)).take m)).length = a.n := by rw [putL_len (by rw [jn, HMN.out]; omega)]; exact HMN.out
              have bt := hR.byte (h := h7) (cB := cB7) (k := m) (by show wr.cell? _ = some (Value.slice _ (putL CS 0 ((List.replicate lo (0 : UInt8)).take m)).length _); rw [nl]; exact hc0) (by show m < (putL CS 0 ((List.replicate lo (0 : UInt8)).take m)).length; rw [nl]; omega) 0
              obtain ⟨y1, y2, y3, y4, y5⟩ := bt
              have ez := putL_step (c := CS) (k := 0) (t := List.replicate lo (0 : UInt8)) HLE.out (j := m) (by rw [List.length_replicate]; exact hml)
              rw [List.getElem_replicate, Nat.zero_add] at ez
              have y6 : Rf (wr.setCell ⟨h7, m, none⟩ (.int .u8 0)) q ⟨putL CS 0 ((List.replicate lo (0 : UInt8)).take (m + 1)), lo, DS⟩ F := by rw [← ez]; exact y3
              have y7 : (wr.setCell ⟨h7, m, none⟩ (.int .u8 0)).cell? ⟨q, 0, none⟩ = some (.slice (some ⟨h7, 0, none⟩) a.n cB7) := by
                have : (wr.setCell ⟨h7, m, none⟩ (.int .u8 0)).cell? ⟨q, 0, none⟩ = some (.slice (some ⟨h7, 0, none⟩) (putL CS 0 ((List.replicate lo (0 : UInt8)).take m)).length cB7) := y5
                rw [nl] at this
                exact this
              have Y6 := Lib.hid y6
              have Y7 := Lib.hid y7
              have Y4 := Lib.hid (show Touch F w (wr.setCell ⟨h7, m, none⟩ (.int .u8 0)) from hT.trans' y4)
              have m0 : (0 : Int) ≤ (m : Int) := Int.natCast_nonneg _
              have m1 : (m : Int) < (a.n : Int) := by omega
              clear y3 y4 y5 y6 y7 ez hR hT nl jn
              go_wp2_with fail
              go_roundw
              case rel => exact ⟨m + 1, by omega, by go_num, Y6.out, Y4.out, Y7.out⟩
              case measure => simp [intOf]; omega
            · obtain rfl : m = lo := by omega
              have hR8 : Rf wr q a.compact F := by
                rw [HCP.out]
                rw [List.take_of_length_le (by rw [List.length_replicate]; exact Nat.le_refl _)] at hR
                exact hR
              have ck := compact_ok HK.out
              obtain ⟨k1, k2, k3, k4, _⟩ := compact_all HK.out
              have gp := qgap_any hR8 (by rw [k2, ← HN.out]; omega) (by rw [← k3] at hn40; omega)
              have eg : (a.compact.low : Int) - (a.compact.fin : Int) = (a.compact.gap : Int) := by have := ck.fin; unfold A.gap; omega
              rw [eg] at gp
              have hg1 : (a.compact.gap : Int) ≤ 5000 := by unfold A.gap; omega
              have hg2 : (a.gap : Int) ≤ 5000 := by unfold A.gap; omega
              have hg3 : (0 : Int) ≤ (a.compact.gap : Int) := Int.natCast_nonneg _
              have hg4 : (0 : Int) ≤ (a.gap : Int) := Int.natCast_nonneg _
              have GP := Lib.hid gp
              have HR8 := Lib.hid hR8
              have HT8 := Lib.hid hT
              clear gp hR8 hR hT ck k1 k2 k3 k4 eg hc0
              go_wp2_with fail
              refine GP.out.mono ?_
              rintro e w9 ⟨rfl, b9⟩
              have HE := Lib.hid (show Rf w9 q a.compact F ∧ Touch F w w9 from ⟨HR8.out.later b9, HT8.out.trans' (Touch.ofNew b9)⟩)
              clear b9 GP HR8 HT8
              go_wp2_with fail
              go_ret
              exact ⟨rfl, HE.out⟩
end

end Go.Proofs.Ytmandeohbiagfaa.Slot

namespace Go.Proofs.Ytmandeohbiagfaa.Slot
open Go.RowKit
attribute [local go_sem ↓] Go.wp_at_zero Go.wp_at_succ

section
variable {w : World} {q : Nat} {a : A} {F : Nat → Prop}
theorem qgap_is (hk : a.ok) (H : Rf w q a F) : Calls Try.prog 48 #[.pointer (some ⟨q, 0, none⟩)] w fun e w' => e = .returned (.int .i64 (a.gap : Int)) ∧ Below w.heap.size w w' := by
  have h1 := hk.hi
  have h2 := hk.low
  have h3 := hk.fin
  have := qgap_any H (by unfold A.fin at h3; omega) (by omega)
  rwa [show (a.low : Int) - (a.fin : Int) = (a.gap : Int) by unfold A.gap; omega] at this
theorem qfree_is (hk : a.ok) (H : Rf w q a F) : Calls Try.prog 47 #[.pointer (some ⟨q, 0, none⟩)] w fun e w' => e = .returned (.int .i64 (a.free : Int)) ∧ Below w.heap.size w w' := by
  have h1 := hk.hi
  have h2 := hk.low
  have h3 := hk.fin
  have h4 := hk.room
  have := qfree_any H (by unfold A.fin at h3; omega) (by omega) (by omega)
  rwa [show (a.n : Int) - (a.fin : Int) - (tot a.dir : Int) = (a.free : Int) by unfold A.free; omega] at this
set_option maxRecDepth 100000 in
theorem qput_arg (H : Rf w q a F) (i : Int) (t : ByteArray) (hi : i < 0 ∨ (a.dir.length : Int) < i) : Calls Try.prog 27 #[.pointer (some ⟨q, 0, none⟩), .int .i64 i, .string t] w fun e w' => e = .returned (.int .i64 2) ∧ w = w' := by
  obtain ⟨ad, cap, c2⟩ := H.len_cell
  by_cases h0 : i < 0
  · have e1 : decide (i < 0) = true := decide_eq_true h0
    clear h0 hi H
    go_enter Try.func27, Try.ntmps27
    go_wp2_with fail
    go_ret
    exact ⟨rfl, rfl⟩
  · have e1 : decide (i < 0) = false := decide_eq_false h0
    have e2 : decide ((a.dir.length : Int) < i) = true := decide_eq_true (by omega)
    clear h0 hi H
    go_enter Try.func27, Try.ntmps27
    go_wp2_with fail
    go_ret
    exact ⟨rfl, rfl⟩
set_option maxRecDepth 100000 in
theorem qput_full (hk : a.ok) (H : Rf w q a F) (i : Int) (t : ByteArray) (ht : t.size ≤ 281474976710656) (hi : 0 ≤ i ∧ i ≤ (a.dir.length : Int)) (hf : a.free < t.size + 4) : Calls Try.prog 27 #[.pointer (some ⟨q, 0, none⟩), .int .i64 i, .string t] w fun e w' => e = .returned (.int .i64 4) ∧ Below w.heap.size w w' := by
  obtain ⟨ad, cap, c2⟩ := H.len_cell
  have fr := Lib.hid (qfree_is hk H)
  have e0 : decide (i < 0) = false := decide_eq_false (by omega)
  have e1 : decide ((a.dir.length : Int) < i) = false := decide_eq_false (by omega)
  have e2 : decide ((a.free : Int) < (t.size : Int) + 4) = true := decide_eq_true (by omega)
  have e3 : decide (a.free < t.size + 4) = true := decide_eq_true hf
  clear hi hf H hk
  go_enter Try.func27, Try.ntmps27
  go_wp2_with fail
  refine fr.out.mono ?_
  rintro e w' ⟨rfl, hb⟩
  have HB := Lib.hid hb
  clear hb
  go_wp2_with fail
  go_ret
  exact ⟨rfl, HB.out⟩

set_option maxRecDepth 100000 in
set_option maxHeartbeats 8000000 in
theorem qput_room (hk : a.ok) (H : Rf w q a F) (k : Nat) (t : ByteArray) (hi : k ≤ a.dir.length) (hf : t.size + 4 ≤ a.free) :
    Calls Try.prog 27 #[.pointer (some ⟨q, 0, none⟩), .int .i64 (k : Int), .string t] w fun e w' => e = .returned (.int .i64 0) ∧ QP w q F ((room a (t.size + 4)).putAt k t.data.toList) w' := by
  obtain ⟨ad, cap, c2⟩ := H.len_cell
  have hfr : a.free ≤ 4096 := by have := hk.hi; unfold A.free; omega
  have hdl : a.dir.length ≤ 2000 := by have := hk.hi; have := hk.fin; have := hk.low; unfold A.fin at *; omega
  have ht5 : t.size ≤ 5000 := by omega
  have fr := Lib.hid (qfree_is hk H)
  have gp := Lib.hid (fun W (t : Below w.heap.size w W) => qgap_is hk (H.later t))
  have co := Lib.hid (fun W (t : Below w.heap.size w W) => qcompact_any hk (H.later t))
  have RM := Lib.hid (room_all hk (t.size + 4))
  have HH := Lib.hid H
  have HF := Lib.hid hf
  have HI := Lib.hid hi
  have e0 : decide ((k : Int) < 0) = false := decide_eq_false (by omega)
  have e1 : decide ((a.dir.length : Int) < (k : Int)) = false := decide_eq_false (by omega)
  have e1' : decide (a.dir.length < k) = false := decide_eq_false (by omega)
  have e2 : decide ((a.free : Int) < (t.size : Int) + 4) = false := decide_eq_false (by omega)
  have e3 : decide (a.free < t.size + 4) = false := decide_eq_false (by omega)
  have k0 : (k : Int) ≤ 2000 := by omega
  have k1 : (0 : Int) ≤ (k : Int) := Int.natCast_nonneg _
  have t0 : (t.size : Int) ≤ 5000 := by omega
  have t1 : (0 : Int) ≤ (t.size : Int) := Int.natCast_nonneg _
  have HLT := Lib.hid H.below
  clear hi hf H
  obtain ⟨a1, ha1⟩ : ∃ a1, a1 = room a (t.size + 4) := ⟨_, rfl⟩
  rw [← ha1] at RM ⊢
  unfold room at ha1
  have hz : ∃ z : Bool, decide ((a.gap : Int) < (t.size : Int) + 4) = z ∧ decide (a.gap < t.size + 4) = z := ⟨_, rfl, by rw [decide_eq_decide]; omega⟩
  obtain ⟨z, e4, e5⟩ := hz
  have hc : (z = true ∧ a1 = a.compact) ∨ (z = false ∧ a1 = a) := by
    rw [ha1, ← e5]
    by_cases hg : a.gap < t.size + 4
    · rw [if_pos hg]; simp [hg]
    · rw [if_neg hg]; simp [hg]
  have HC := Lib.hid hc
  clear ha1 hc hk
  go_enter Try.func27, Try.ntmps27
  go_wp2_with fail
  refine fr.out.mono ?_
  rintro e w1 ⟨rfl, hb⟩
  have HB := Lib.hid hb
  clear hb fr
  go_wp2_with fail
  refine (gp.out _ HB.out).mono ?_
  rintro e w2 ⟨rfl, hb⟩
  have HB2 := Lib.hid (HB.out.trans (hb.mono HB.out.size))
  clear hb gp HB
  go_upto_if 31 with fail
  go_cut [] (fun wx => Rf wx q a1 F ∧ Touch F w wx)
  case first =>
    rcases HC.out with ⟨rfl, hc⟩ | ⟨rfl, hc⟩
    · have HC2 := Lib.hid hc
      clear hc
      go_wp2_with fail
      refine (co.out _ HB2.out).mono ?_
      rintro e w3 ⟨rfl, h3⟩
      have H2 := Lib.hid (show Rf w3 q a1 F ∧ Touch F w w3 from ⟨by rw [HC2.out]; exact h3.1, (Touch.ofNew HB2.out).trans' h3.2⟩)
      clear h3
      go_wp2_with fail
      go_meet
      exact H2.out
    · have H2 := Lib.hid (show Rf w2 q a1 F ∧ Touch F w w2 from ⟨by rw [hc]; exact HH.out.later HB2.out, Touch.ofNew HB2.out⟩)
      clear hc
      go_wp2_with fail
      go_meet
      exact H2.out
  case rest =>
    obtain ⟨hR, hT⟩ := hcut
    obtain ⟨r1, r2, r3, r4, r5, r6⟩ := RM.out
    have r7 := r5 (by have := HF.out; omega)
    have hlow := r1.low
    have hn40 := r1.hi
    have htl : t.data.toList.length = t.size := rfl
    have qb := qbelow_any hR t (by omega) hlow (by omega)
    have QB := Lib.hid qb
    have HT := Lib.hid hT
    have hpa : a1.putAt k t.data.toList = ⟨a1.lay t.data.toList, a1.low - t.size, a1.dir.take k ++ (a1.low - t.size, t.size) :: a1.dir.drop k⟩ := rfl
    have HPA := Lib.hid hpa
    have hka : k ≤ a1.dir.length := by have := HI.out; omega
    have hda : a1.dir.length ≤ 2000 := by omega
    have HKA := Lib.hid hka
    obtain ⟨z1, hz1⟩ : ∃ z1, z1 = a1.low - t.size := ⟨_, rfl⟩
    rw [← hz1] at QB HPA
    clear qb hR hT r1 r2 r3 r4 r5 r6 r7 hlow hn40 htl hpa hz1 hka e0 e1 e1' e2 e3 c2
    go_wp2_with fail
    refine QB.out.mono ?_
    rintro e w4 ⟨rfl, hR4, hT4⟩
    have ba : Below w4.heap.size w4 (w4.alloc (.cells #[.int .i64 (z1 : Int), .int .i64 (t.size : Int)] 83)) := (Below.refl _ _).alloc (Nat.le_refl _) _
    obtain ⟨W5, hW5⟩ : ∃ W5, W5 = w4.alloc (.cells #[.int .i64 (z1 : Int), .int .i64 (t.size : Int)] 83) := ⟨_, rfl⟩
    have rn : W5.heap[w4.heap.size]? = some (.cells #[.int .i64 (z1 : Int), .int .i64 (t.size : Int)] 83 (0, 0)) := by rw [hW5]; exact heap_alloc_new _ _
    rw [← hW5] at ba
    have hR5 := hR4.later ba
    have T5 := Lib.hid ((HT.out.trans' hT4).trans' (Touch.ofNew ba))
    obtain ⟨h5, cB5, v5, L5, _⟩ := id hR5.lay
    have hdl5 : Dl W5 v5 a1.dir := L5.dl
    obtain ⟨x1, sl1, sx1⟩ := hdl5.head (k := k) HKA.out
    obtain ⟨x2, sl2, sx2⟩ := hdl5.tail (k := k) HKA.out
    obtain ⟨ad5, nn5, cap5, rfl⟩ := hdl5.shape3
    have c25 := L5.cell2
    have fz5 := L5.free 2
    have hq5 := hR5.lt
    have CC := Lib.hid (show ∀ W, Below W5.heap.size W5 W → W.cell? ⟨q, 2, none⟩ = some (.slice ad5 nn5 cap5) ∧ W.frozen? ⟨q, 2, none⟩ = false from fun W tt => ⟨(tt.cell (p := ⟨q, 2, none⟩) hq5).trans c25, (tt.frozen (p := ⟨q, 2, none⟩) hq5).trans fz5⟩)
    have hn5 := (Array.getElem?_eq_some_iff.1 rn).1
    have GG := Lib.hid (show ∀ W, Below W5.heap.size W5 W → W.cell? ⟨w4.heap.size, 0, none⟩ = some (.int .i64 (z1 : Int)) ∧ W.cell? ⟨w4.heap.size, 1, none⟩ = some (.int .i64 (t.size : Int)) from fun W tt => ⟨(tt.cell (p := ⟨w4.heap.size, 0, none⟩) hn5).trans (by rw [cell_of_row _ _ _ _ _ _ rn]; rfl), (tt.cell (p := ⟨w4.heap.size, 1, none⟩) hn5).trans (by rw [cell_of_row _ _ _ _ _ _ rn]; rfl)⟩)
    have BA := Lib.hid (show Below W5.heap.size W5 (W5.alloc (.cells #[] 83)) from (Below.refl _ _).alloc (Nat.le_refl _) _)
    have DM := Lib.hid (show Dl (W5.alloc (.cells #[] 83)) (.slice (some ⟨W5.heap.size, 0, none⟩) 0 0) [] from Dl.made (w := W5) [] (by simp))
    have OW := Lib.hid (show ∀ b, (Value.slice (some ⟨W5.heap.size, 0, none⟩) 0 0).ownBlock = some b → W5.heap.size ≤ b by intro b hb; simp [Value.ownBlock] at hb; omega)
    have SX1 := Lib.hid sx1
    have SX2 := Lib.hid sx2
    have HR5 := Lib.hid hR5
    have HW5 := Lib.hid hW5
    have hl1 : ([] : List (Nat × Nat)).length + (a1.dir.take k).length ≤ 1000000 := by simp; omega
    have hl2 : (([] : List (Nat × Nat)) ++ a1.dir.take k).length + [((z1, t.size) : Nat × Nat)].length ≤ 1000000 := by simp; omega
    have hl3 : (([] : List (Nat × Nat)) ++ a1.dir.take k ++ [((z1, t.size) : Nat × Nat)]).length + (a1.dir.drop k).length ≤ 1000000 := by simp; omega
    have HL1 := Lib.hid hl1
    have HL2 := Lib.hid hl2
    have HL3 := Lib.hid hl3
    have DMX := Lib.hid (show ∀ W : World, Dl (W.alloc (.cells #[.int .i64 (z1 : Int), .int .i64 (t.size : Int)] 83)) (.slice (some ⟨W.heap.size, 0, none⟩) 1 1) [((z1, t.size) : Nat × Nat)] from fun W => Dl.made (w := W) [(z1, t.size)] (by simp))
    have BAX := Lib.hid (show ∀ W : World, Below W.heap.size W (W.alloc (.cells #[.int .i64 (z1 : Int), .int .i64 (t.size : Int)] 83)) from fun W => (Below.refl _ _).alloc (Nat.le_refl _) _)
    have gg0 := (GG.out W5 (Below.refl _ _)).1
    have gg1 := (GG.out W5 (Below.refl _ _)).2
    clear sx1 sx2 L5 hR4 hT4 ba hR5 rn hW5 hl1 hl2 hl3 fz5 hdl5 QB HT
    go_wp2_with (first | rw [← HW5.out] | (refine wpList_appD (m := a1.dir.take k) W5.heap.size rfl _ _ rfl DM.out (SX1.out.later BA.out) HL1.out OW.out BA.out.size rfl rfl ?_; intro v6 w6 t6 g6 b6; have B6 := Lib.hid (BA.out.grown g6 BA.out.size OW.out); obtain ⟨c26, f26⟩ := CC.out w6 B6.out; obtain ⟨gg2, gg3⟩ := GG.out w6 B6.out; have T6 := Lib.hid t6; have O6 := Lib.hid b6; have DM2 := Lib.hid (DMX.out w6); have BA6 := Lib.hid (BAX.out w6); clear t6 g6 b6) | (refine wpList_appD (m := [((z1, t.size) : Nat × Nat)]) W5.heap.size rfl _ _ rfl (T6.out.later BA6.out) DM2.out.srcD HL2.out O6.out (Nat.le_trans B6.out.size BA6.out.size) rfl rfl ?_; intro v7 w7 t7 g7 b7; have B7 := Lib.hid ((B6.out.trans (BA6.out.mono B6.out.size)).grown g7 (Nat.le_trans B6.out.size BA6.out.size) O6.out); obtain ⟨c27, f27⟩ := CC.out w7 B7.out; have T7 := Lib.hid t7; have O7 := Lib.hid b7; clear t7 g7 b7) | (refine wpList_appD (m := a1.dir.drop k) W5.heap.size rfl _ _ rfl T7.out (SX2.out.later B7.out) HL3.out O7.out B7.out.size rfl rfl ?_; intro v8 w8 t8 g8 b8; have B8 := Lib.hid (B7.out.grown g8 B7.out.size O7.out); obtain ⟨c28, f28⟩ := CC.out w8 B8.out; obtain ⟨ad8, nn8, cp8, rfl⟩ := t8.shape3; have QD := Lib.hid (QP.dir HR5.out B8.out t8 b8); clear t8 g8 b8))
    go_wp2_with fail
    go_ret
    refine ⟨rfl, ?_⟩
    have e1 : ([] ++ a1.dir.take k ++ [((z1, t.size) : Nat × Nat)] ++ a1.dir.drop k) = a1.dir.take k ++ (z1, t.size) :: a1.dir.drop k := by simp
    have h1 := QD.out
    rw [e1] at h1
    rw [HPA.out]
    exact QP.next (w1 := W5) ⟨HR5.out.grown, T5.out⟩ ⟨h1.1.mono (by
      rintro x (hx | hx)
      · exact .inl (.inl hx)
      · exact .inr hx) (by
      rintro x ((hx | hx) | hx)
      · exact h1.1.below x (.inl hx)
      · exact Nat.lt_of_lt_of_le hx.2 h1.2.size
      · exact hx.2), h1.2.mono (fun x hx => .inl hx)⟩
end

end Go.Proofs.Ytmandeohbiagfaa.Slot

namespace Go.Proofs.Ytmandeohbiagfaa.Slot
open Go.RowKit
attribute [local go_sem ↓] Go.wp_at_zero Go.wp_at_succ

theorem strB_app (l m : List UInt8) : strB l ++ strB m = strB (l ++ m) := by
  apply ByteArray.ext
  rw [ByteArray.data_append]
  simp [strB]
/-- the head, and the first k places -/
def headB (a : A) (k : Nat) : List UInt8 := two a.dir.length ++ two a.low ++ dirB (a.dir.take k)
theorem headB_len (a : A) (k : Nat) (hk : k ≤ a.dir.length) : (headB a k).length = 4 + 4 * k := by
  unfold headB
  simp only [List.length_append, two_len, dirB_len, List.length_take]
  omega
theorem headB_succ (a : A) (k : Nat) (hk : k < a.dir.length) : headB a (k + 1) = headB a k ++ two (a.at k).1 ++ two (a.at k).2 := by
  unfold headB
  have e : a.dir.take (k + 1) = a.dir.take k ++ [a.at k] := take_one hk
  rw [e]
  simp [dirB]
theorem headB_all (a : A) : headB a a.dir.length ++ a.cells.drop a.fin = imgA a := by
  unfold headB imgA
  rw [List.take_length, List.append_assoc, List.append_assoc]

section
variable {w : World} {q : Nat} {a : A} {F : Nat → Prop}
theorem hb_row {w w' : World} {q h cB : Nat} {v : Value} {a : A} (t : Below w.heap.size w w') (L : RLay w q h cB v a) : w'.heap[h]? = w.heap[h]? := t.block h L.row.lt
set_option maxRecDepth 100000 in
set_option maxHeartbeats 8000000 in
theorem qbytes_any (hk : a.ok) (H : Rf w q a F) : Calls Try.prog 29 #[.pointer (some ⟨q, 0, none⟩)] w fun e w' => e = .returned (.string (strB (imgA a))) ∧ Below w.heap.size w w' := by
  have hn40 := hk.hi
  have hlow := hk.low
  have hfin := hk.fin
  have hd : a.dir.length ≤ 2000 := by unfold A.fin at hfin; omega
  have HH := Lib.hid H
  have HK := Lib.hid hk
  obtain ⟨n, hn⟩ : ∃ n, n = a.dir.length := ⟨_, rfl⟩
  have HN := Lib.hid hn
  obtain ⟨lo, hlo⟩ : ∃ lo, lo = a.low := ⟨_, rfl⟩
  have tt1 := fun W => two_any n W (by omega)
  have tt2 := fun W => two_any lo W (by omega)
  have hs0 : strB (two n) ++ strB (two lo) = strB (headB a 0) := by rw [strB_app, hn, hlo]; simp [headB, dirB]
  have z1 : (strB (two n)).size = 2 := rfl
  have z2 : (strB (two lo)).size = 2 := rfl
  generalize strB (two n) = S1 at *
  generalize strB (two lo) = S2 at *
  have no1 : (9223372036854775807 < S1.size + S2.size) = False := eq_false (by omega)
  have T1 := Lib.hid tt1
  have T2 := Lib.hid tt2
  have HS0 := Lib.hid hs0
  clear tt1 tt2 hs0 z1 z2
  obtain ⟨h, cB, v, L, _⟩ := id H.lay
  obtain ⟨ad, cap, rfl⟩ := L.dl.shape
  have hq := H.lt
  have c1 := L.cell1
  have c2 := L.cell2
  rw [← hn] at c2
  rw [← hlo] at c1
  have CC := Lib.hid (show ∀ W, Below w.heap.size w W → W.cell? ⟨q, 2, none⟩ = some (.slice ad n cap) ∧ W.cell? ⟨q, 1, none⟩ = some (.int .i64 (lo : Int)) from fun W tt => ⟨(tt.cell (p := ⟨q, 2, none⟩) hq).trans c2, (tt.cell (p := ⟨q, 1, none⟩) hq).trans c1⟩)
  have n1 : (n : Int) ≤ 2000 := by omega
  have n0 : (0 : Int) ≤ (n : Int) := Int.natCast_nonneg _
  have hd2 : n ≤ 2000 := by omega
  have LL := Lib.hid L
  clear hk H hn hlo hd L
  go_enter Try.func29, Try.ntmps29
  go_wp2_with fail
  go_region_held3 (fun w' => w'.cell? ⟨q, 2, none⟩ = some (.slice ad n cap) ∧ w'.cell? ⟨q, 1, none⟩ = some (.int .i64 (lo : Int)))
    (first | exact CC.out _ ((Below.refl _ _).drew) | exact CC.out _ ((Below.refl _ _).drew.trans (hb.mono (Nat.le_refl _))) | exact CC.out _ (((Below.refl _ _).drew.trans (hb.mono (Nat.le_refl _))).trans (hb2.mono hb.size)))
    (first | (go_at_call 52; (with_reducible refine Calls.mono (T1.out _) ?_); rintro e w1 ⟨rfl, hb⟩) | (go_at_call 52; (with_reducible refine Calls.mono (T2.out _) ?_); rintro e w2 ⟨rfl, hb2⟩))
  have B1 := Lib.hid (((Below.refl w.heap.size w).drew.trans (hb.mono (Nat.le_refl _))).trans (hb2.mono hb.size))
  clear hb hb2
  go_wp2_with (rw [HS0.out])
  try rw [HS0.out]
  clear HS0 T1 T2 c1 c2 no1
  go_loopw [3, 4] (fun s i wr => ∃ k : Nat, k ≤ n ∧ i = .int .i64 k ∧ s = .string (strB (headB a k)) ∧ Below w.heap.size w wr) (fun _ i _ => n - (intOf i).toNat)
  case atStart => exact ⟨0, by omega, by go_num, rfl, B1.out⟩
  case round =>
    obtain ⟨k, hkn, rfl, rfl, hb⟩ := hrel
    obtain ⟨c2, c1⟩ := CC.out wr hb
    have HB := Lib.hid hb
    clear B1 hb
    by_cases hlt : k < n
    · have hka : k < a.dir.length := by rw [← HN.out]; exact hlt
      have he := HK.out.each k hka
      obtain ⟨gd, rfl, d1, d2, _⟩ := LL.out.dl.at (k := k) hka
      have hat : a.dir.getD k (0, 0) = a.at k := rfl
      rw [hat] at d1 d2
      have hgd := block_lt_of_cell d1
      have hsucc := headB_succ a k hka
      obtain ⟨x, hx⟩ : ∃ x, x = (a.at k).1 := ⟨_, rfl⟩
      obtain ⟨y, hy⟩ : ∃ y, y = (a.at k).2 := ⟨_, rfl⟩
      rw [← hx] at d1 he hsucc
      rw [← hy] at d2 he hsucc
      have tt1 := fun W => two_any x W (by omega)
      have tt2 := fun W => two_any y W (by omega)
      have hs0 : strB (headB a k) ++ strB (two x) ++ strB (two y) = strB (headB a (k + 1)) := by rw [strB_app, strB_app, hsucc]
      have z0 : (strB (headB a k)).size ≤ 10000 := by rw [strB_size, headB_len a k (by omega)]; omega
      have z1 : (strB (two x)).size = 2 := rfl
      have z2 : (strB (two y)).size = 2 := rfl
      generalize strB (headB a k) = S0 at *
      generalize strB (two x) = S1 at *
      generalize strB (two y) = S2 at *
      have no1 : (9223372036854775807 < S0.size + S1.size) = False := eq_false (by omega)
      have no2 : (9223372036854775807 < S0.size + S1.size + S2.size) = False := eq_false (by omega)
      have T1 := Lib.hid tt1
      have T2 := Lib.hid tt2
      have HS0 := Lib.hid hs0
      clear tt1 tt2 hs0 z0 z1 z2
      have DD := Lib.hid (show ∀ W, Below w.heap.size w W → W.cell? ⟨q, 2, none⟩ = some (.slice (some ⟨gd, 0, none⟩) n cap) ∧ W.cell? ⟨gd, k * 2, none⟩ = some (.int .i64 (x : Int)) ∧ W.cell? ⟨gd, k * 2 + 1, none⟩ = some (.int .i64 (y : Int)) from fun W tt => ⟨(CC.out W tt).1, (tt.cell (p := ⟨gd, k * 2, none⟩) hgd).trans d1, (tt.cell (p := ⟨gd, k * 2 + 1, none⟩) hgd).trans d2⟩)
      have k0 : (0 : Int) ≤ (k : Int) := Int.natCast_nonneg _
      have k1 : (k : Int) < (n : Int) := by omega
      have k2 : k < n := hlt
      clear d1 d2 he hsucc hx hy hat
      go_wp2_with fail
      go_region_held3 (fun w' => w'.cell? ⟨q, 2, none⟩ = some (.slice (some ⟨gd, 0, none⟩) n cap) ∧ w'.cell? ⟨gd, k * 2, none⟩ = some (.int .i64 (x : Int)) ∧ w'.cell? ⟨gd, k * 2 + 1, none⟩ = some (.int .i64 (y : Int)))
        (first | exact DD.out _ HB.out.drew | exact DD.out _ (HB.out.drew.trans (hb.mono HB.out.size)) | exact DD.out _ ((HB.out.drew.trans (hb.mono HB.out.size)).trans (hb2.mono (Nat.le_trans HB.out.size hb.size))))
        (first | (go_at_call 52; (with_reducible refine Calls.mono (T1.out _) ?_); rintro e w1 ⟨rfl, hb⟩) | (go_at_call 52; (with_reducible refine Calls.mono (T2.out _) ?_); rintro e w2 ⟨rfl, hb2⟩))
      have B3 := Lib.hid ((HB.out.drew.trans (hb.mono HB.out.size)).trans (hb2.mono (Nat.le_trans HB.out.size hb.size)))
      clear hb hb2 DD c1 c2
      go_wp2_with fail
      go_roundw
      case rel => exact ⟨k + 1, by omega, by go_num, by rw [← HS0.out], B3.out⟩
      case measure => simp [intOf]; omega
    · obtain rfl : k = n := by omega
      have hfk : a.fin = 4 + 4 * k := by rw [HN.out]; rfl
      have hhl : (strB (headB a k)).size = a.fin := by rw [hfk]; exact headB_len a k (by rw [HN.out]; exact Nat.le_refl _)
      have hrow := LL.out.row.far (hb_row HB.out LL.out)
      have cv := hrow.str (c := cB) (k := a.fin) (m := a.n) (by omega) (Nat.le_refl _) LL.out.cap
      have hcl : a.cells.length = a.n := rfl
      rw [List.take_of_length_le (by rw [List.length_drop, hcl]; exact Nat.le_refl _)] at cv
      have sl := fun W => slice_from W (g := h) (n := a.n) (c := cB) (k := a.fin) (by omega)
      have c0 : wr.cell? ⟨q, 0, none⟩ = some (.slice (some ⟨h, 0, none⟩) a.n cB) := (HB.out.cell (p := ⟨q, 0, none⟩) hq).trans LL.out.cell0
      have HE := Lib.hid (show strB (headB a k) ++ strB (a.cells.drop a.fin) = strB (imgA a) by rw [strB_app, ← headB_all a, HN.out])
      obtain ⟨f, hf⟩ : ∃ f, f = a.fin := ⟨_, rfl⟩
      obtain ⟨S1, hS1⟩ : ∃ S1, S1 = strB (headB a k) := ⟨_, rfl⟩
      obtain ⟨S2, hS2⟩ : ∃ S2, S2 = strB (a.cells.drop a.fin) := ⟨_, rfl⟩
      rw [← hS1] at hhl HE ⊢
      rw [← hS2] at cv HE
      rw [← hf] at hhl cv sl
      have hs2 : (S2.size : Int) ≤ 10000 := by rw [hS2, strB_size, List.length_drop]; omega
      have hs1 : (S1.size : Int) ≤ 10000 := by rw [hhl]; omega
      have hs3 : (0 : Int) ≤ (S1.size : Int) := Int.natCast_nonneg _
      have hs4 : (0 : Int) ≤ (S2.size : Int) := Int.natCast_nonneg _
      have no3 : S1.size + S2.size ≤ 9223372036854775807 := by omega
      obtain ⟨B, hB⟩ : ∃ B, B = base h f cB := ⟨_, rfl⟩
      rw [← hB] at cv sl
      clear hrow hcl hfk hS1 hS2 hf hB c1
      go_wp2_with fail
      go_ret
      exact ⟨by rw [← HE.out]; rfl, HB.out⟩
end

end Go.Proofs.Ytmandeohbiagfaa.Slot

namespace Go.Proofs.Ytmandeohbiagfaa.Page
open Go.RowKit Slot
attribute [local go_sem ↓] Go.wp_at_zero Go.wp_at_succ

theorem wrap64 (n : Nat) (h : n < 18446744073709551616) : IntKind.u64.wrap (n : Int) = (n : Int) := IntWalk.u64_in _ (by omega)
theorem rput_is_yes (n m : Nat) (w : World) (h1 : 1 ≤ m) (h8 : m ≤ 8) (hn : n < 256 ^ m) (h64 : n < 18446744073709551616) :
    Calls Try.prog 46 #[.int .u64 (n : Int), .int .i64 (m : Int)] w fun e w' => e = .returned (.tuple #[.string (Slot.strB (be m n)), .bool true]) ∧ Below w.heap.size w w' := by
  have h := rput_any (n : Int) (m : Int) w ⟨by omega, by omega⟩
  have e1 : putB (n : Int) (m : Int) = true := by
    unfold putB
    refine decide_eq_true ⟨by omega, by omega, ?_⟩
    rw [Int.toNat_natCast]
    have : n / 2 ^ (8 * m) = 0 := Nat.div_eq_of_lt (by rw [pow256]; exact hn)
    have e : ((n / 2 ^ (8 * m) : Nat) : Int) = (n : Int) / 2 ^ (8 * m) := by simp
    rw [← e, this]; rfl
  have e2 : putS (n : Int) (m : Int) = Slot.strB (be m n) := by
    unfold putS
    rw [if_pos e1, Int.toNat_natCast]
    unfold bytesOf
    rw [Int.toNat_natCast]
    rfl
  rw [e1, e2] at h
  exact h

set_option maxRecDepth 100000 in
theorem rnum_any (n m : Nat) (w : World) (h1 : 1 ≤ m) (h8 : m ≤ 8) (hn : n < 256 ^ m) (h64 : n < 18446744073709551616) :
    Calls Try.prog 25 #[.int .u64 (n : Int), .int .i64 (m : Int)] w fun e w' => e = .returned (.string (Slot.strB (be m n))) ∧ Below w.heap.size w w' := by
  have P := Lib.hid (rput_is_yes n m w h1 h8 hn h64)
  clear h1 h8 hn h64
  generalize Slot.strB (be m n) = X at *
  go_enter Try.func25, Try.ntmps25
  go_wp2_with fail
  refine P.out.mono ?_
  rintro e w1 ⟨rfl, b1⟩
  have B := Lib.hid b1
  clear b1 P
  go_wp2_with fail
  go_ret
  exact ⟨rfl, B.out⟩

/-- the document's area that is being filled, made since W0 -/
def Fil (W0 w : World) (q : Nat) (a : A) : Prop := Rf w q a (fun b => W0.heap.size ≤ b ∧ b < w.heap.size) ∧ Below W0.heap.size W0 w
theorem Fil.new {w w' : World} (h : newR w w' 488) : Fil w w' (w.heap.size + 1) (A.new 488) := h
theorem Fil.qp {W0 w w' : World} {q : Nat} {a a' : A} (h : Fil W0 w q a) (k : QP w q (fun b => W0.heap.size ≤ b ∧ b < w.heap.size) a' w') : Fil W0 w' q a' := by
  refine ⟨k.1.mono ?_ (fun b hb => hb.2), h.2.trans (k.2.below h.2.size (fun x hx => hx.1))⟩
  rintro b (hb | hb)
  · exact ⟨hb.1, Nat.lt_of_lt_of_le hb.2 k.2.size⟩
  · exact ⟨Nat.le_trans h.2.size hb.1, hb.2⟩

/-- a page's box and its rows -/
structure Bx (w w' : World) (g : Nat) (p : Pg) (v : Value) : Prop where
  box : w'.heap[g]? = some (.cells (pgC p v) 26 (0, 0))
  rows : Rows w' v p.rows
  below : Below w.heap.size w w'
theorem Bx.later {w w' w2 : World} {g : Nat} {p : Pg} {v : Value} (h : Bx w w' g p v) (t : Below w'.heap.size w' w2) : Bx w w2 g p v :=
  ⟨(t.block g (Array.getElem?_eq_some_iff.1 h.box).1).trans h.box, h.rows.later t, h.below.trans (t.mono h.below.size)⟩
/-- what is read of the box -/
def BxC (w' : World) (g : Nat) (p : Pg) (_v : Value) : Prop := w'.cell? ⟨g, 0, none⟩ = some (.int .u8 (p.kind : Int)) ∧ w'.cell? ⟨g, 1, none⟩ = some (.int .u8 (p.level : Int)) ∧ w'.cell? ⟨g, 2, none⟩ = some (.int .u32 (p.id : Int)) ∧ w'.cell? ⟨g, 3, none⟩ = some (.int .u64 (p.lsn : Int)) ∧ w'.cell? ⟨g, 4, none⟩ = some (.int .u32 (p.next : Int))
theorem Bx.cells {w w' : World} {g : Nat} {p : Pg} {v : Value} (h : Bx w w' g p v) : BxC w' g p v :=
  ⟨by rw [cell_of_row _ _ _ _ _ _ h.box]; rfl, by rw [cell_of_row _ _ _ _ _ _ h.box]; rfl, by rw [cell_of_row _ _ _ _ _ _ h.box]; rfl, by rw [cell_of_row _ _ _ _ _ _ h.box]; rfl, by rw [cell_of_row _ _ _ _ _ _ h.box]; rfl⟩
theorem Bx.cell5 {w w' : World} {g : Nat} {p : Pg} {v : Value} (h : Bx w w' g p v) : w'.cell? ⟨g, 5, none⟩ = some v := by rw [cell_of_row _ _ _ _ _ _ h.box]; rfl
theorem Bx.start {w w1 : World} {p : Pg} {v : Value} (h : Rows w v p.rows) (b : Below (w.alloc (.cells (pgC p v) 26)).heap.size (w.alloc (.cells (pgC p v) 26)) w1) : Bx w w1 w.heap.size p v := by
  have hb := (Below.refl w.heap.size w).alloc (Nat.le_refl _) (.cells (pgC p v) 26)
  have h0 : Bx w (w.alloc (.cells (pgC p v) 26)) w.heap.size p v := ⟨heap_alloc_new w _, h.alloc _, hb⟩
  exact h0.later b

set_option maxRecDepth 100000 in
set_option maxHeartbeats 1000000 in
theorem rencode_no {w : World} {v : Value} (p : Pg) (h : Rows w v p.rows) (hu : used p.rows ≤ 1000000) (hm : mayP p = false) :
    Calls Try.prog 11 #[pgV p v] w fun e w' => e = .returned (.tuple #[.string ⟨#[]⟩, .int .i64 2]) ∧ Below w.heap.size w w' := by
  have m := rmay_any p (h.alloc (.cells (pgC p v) 26)) hu
  rw [hm] at m
  unfold pgC pgV at m
  have M := Lib.hid m
  have B := Lib.hid ((Below.refl w.heap.size w).alloc (Nat.le_refl _) (.cells (pgC p v) 26))
  clear m h hu hm
  unfold pgV
  go_enter Try.func11, Try.ntmps11
  go_wp2_with fail
  refine M.out.mono ?_
  rintro e w1 ⟨rfl, b1⟩
  have B1 := Lib.hid (B.out.trans (b1.mono B.out.size))
  clear b1
  go_wp2_with fail
  go_ret2
  exact ⟨rfl, B1.out⟩

/-- what is sealed -/
theorem rseal_body {p : Pg} (hm : mayP p = true) (W : World) : Calls Try.prog 28 #[.string (Slot.strB (headL p) ++ Slot.strB (Slot.imgA (arA p.rows p.rows.length)))] W fun e w' => e = .returned (.string (encS p)) ∧ Below W.heap.size W w' := by
  rw [Page.strB_app]
  have e : headL p ++ Slot.imgA (arA p.rows p.rows.length) = bodyL p := rfl
  rw [e]
  have hl := bodyL_len (may_used hm)
  have h := Sum.rseal_any (Slot.strB (bodyL p)) W (by show (bodyL p).length ≤ _; omega)
  have e2 : encS p = ⟨(Sum.sealL (Slot.strB (bodyL p)).data.toList).toArray⟩ := by
    unfold encS
    rw [if_pos hm]
    rfl
  rw [e2]
  exact h
theorem ar_step' {l : List ByteArray} {k : Nat} (hk : k < l.length) (hu : used l ≤ 484) : (arA l k).ok ∧ k ≤ (arA l k).dir.length ∧ (nth l k).size + 4 ≤ (arA l k).free := by
  have h1 := used_take hk
  have h2 := used_take_le l (k + 1)
  obtain ⟨a1, a2, a3, a4, a5, a6⟩ := arA_all l k (by omega) (by omega)
  exact ⟨a1, by omega, by omega⟩

/-- a head's bytes, in six pieces -/
theorem head_six (p : Pg) : Slot.strB (be 1 p.kind) ++ Slot.strB (be 1 p.level) ++ Slot.strB (be 4 p.id) ++ Slot.strB (be 8 p.lsn) ++ Slot.strB (be 4 p.next) ++ Slot.strB (be 2 0) = Slot.strB (headL p) := by
  have e : be 2 0 = [0, 0] := by decide
  rw [e]
  simp only [Page.strB_app, List.append_assoc, headL]

set_option maxRecDepth 100000 in
set_option maxHeartbeats 4000000 in
theorem rencode_yes {w : World} {v : Value} (p : Pg) (hw : p.wf) (h : Rows w v p.rows) (hm : mayP p = true) :
    Calls Try.prog 11 #[pgV p v] w fun e w' => e = .returned (.tuple #[.string (encS p), .int .i64 0]) ∧ Below w.heap.size w w' := by
  have hu := may_used hm
  obtain ⟨ad, c, rfl, _⟩ := id h
  obtain ⟨n, hn⟩ : ∃ n, n = p.rows.length := ⟨_, rfl⟩
  have h0 := h
  rw [← hn] at h ⊢
  have m := rmay_any p (h.alloc (.cells (pgC p (.slice ad n c)) 26)) (by omega)
  rw [hm] at m
  unfold pgC pgV at m
  have M := Lib.hid m
  have H := Lib.hid h
  have U := Lib.hid hu
  have K0 : Hid (∀ W, Calls Try.prog 25 #[.int .u64 (IntKind.u64.wrap (p.kind : Int)), .int .i64 1] W fun e w' => e = .returned (.string (Slot.strB (be 1 p.kind))) ∧ Below W.heap.size W w') := Lib.hid (fun W => by rw [wrap64 p.kind (by have := hw.kind; omega)]; exact rnum_any p.kind 1 W (by omega) (by omega) (by have := hw.kind; omega) (by have := hw.kind; omega))
  have K1 : Hid (∀ W, Calls Try.prog 25 #[.int .u64 (IntKind.u64.wrap (p.level : Int)), .int .i64 1] W fun e w' => e = .returned (.string (Slot.strB (be 1 p.level))) ∧ Below W.heap.size W w') := Lib.hid (fun W => by rw [wrap64 p.level (by have := hw.level; omega)]; exact rnum_any p.level 1 W (by omega) (by omega) (by have := hw.level; omega) (by have := hw.level; omega))
  have K2 : Hid (∀ W, Calls Try.prog 25 #[.int .u64 (IntKind.u64.wrap (p.id : Int)), .int .i64 4] W fun e w' => e = .returned (.string (Slot.strB (be 4 p.id))) ∧ Below W.heap.size W w') := Lib.hid (fun W => by rw [wrap64 p.id (by have := hw.id; omega)]; exact rnum_any p.id 4 W (by omega) (by omega) (by have := hw.id; omega) (by have := hw.id; omega))
  have K3 : Hid (∀ W, Calls Try.prog 25 #[.int .u64 (p.lsn : Int), .int .i64 8] W fun e w' => e = .returned (.string (Slot.strB (be 8 p.lsn))) ∧ Below W.heap.size W w') := Lib.hid (fun W => rnum_any p.lsn 8 W (by omega) (by omega) (by have := hw.lsn; omega) (by have := hw.lsn; omega))
  have K4 : Hid (∀ W, Calls Try.prog 25 #[.int .u64 (IntKind.u64.wrap (p.next : Int)), .int .i64 4] W fun e w' => e = .returned (.string (Slot.strB (be 4 p.next))) ∧ Below W.heap.size W w') := Lib.hid (fun W => by rw [wrap64 p.next (by have := hw.next; omega)]; exact rnum_any p.next 4 W (by omega) (by omega) (by have := hw.next; omega) (by have := hw.next; omega))
  have K5 : Hid (∀ W, Calls Try.prog 25 #[.int .u64 0, .int .i64 2] W fun e w' => e = .returned (.string (Slot.strB (be 2 0))) ∧ Below W.heap.size W w') := Lib.hid (fun W => rnum_any 0 2 W (by omega) (by omega) (by omega) (by omega))
  obtain ⟨X0, hX0⟩ : ∃ X, X = Slot.strB (be 1 p.kind) := ⟨_, rfl⟩
  obtain ⟨X1, hX1⟩ : ∃ X, X = Slot.strB (be 1 p.level) := ⟨_, rfl⟩
  obtain ⟨X2, hX2⟩ : ∃ X, X = Slot.strB (be 4 p.id) := ⟨_, rfl⟩
  obtain ⟨X3, hX3⟩ : ∃ X, X = Slot.strB (be 8 p.lsn) := ⟨_, rfl⟩
  obtain ⟨X4, hX4⟩ : ∃ X, X = Slot.strB (be 4 p.next) := ⟨_, rfl⟩
  obtain ⟨X5, hX5⟩ : ∃ X, X = Slot.strB (be 2 0) := ⟨_, rfl⟩
  have s0 : X0.size = 1 := by rw [hX0]; exact be_length 1 _
  have s1 : X1.size = 1 := by rw [hX1]; exact be_length 1 _
  have s2 : X2.size = 4 := by rw [hX2]; exact be_length 4 _
  have s3 : X3.size = 8 := by rw [hX3]; exact be_length 8 _
  have s4 : X4.size = 4 := by rw [hX4]; exact be_length 4 _
  have s5 : X5.size = 2 := by rw [hX5]; exact be_length 2 _
  have HX := Lib.hid (show X0 ++ X1 ++ X2 ++ X3 ++ X4 ++ X5 = Slot.strB (headL p) by rw [hX0, hX1, hX2, hX3, hX4, hX5]; exact head_six p)
  rw [← hX0] at K0
  rw [← hX1] at K1
  rw [← hX2] at K2
  rw [← hX3] at K3
  rw [← hX4] at K4
  rw [← hX5] at K5
  have MM := Lib.hid hm
  have N := Lib.hid hn
  clear m h h0 hu hm hn hw hX0 hX1 hX2 hX3 hX4 hX5
  unfold pgV
  go_enter Try.func11, Try.ntmps11
  go_wp2_with fail
  refine M.out.mono ?_
  rintro e w1 ⟨rfl, b1⟩
  have E0 : Hid (Bx w w1.drew w.heap.size p (.slice ad n c)) := Lib.hid (Bx.start H.out (b1.trans ((Below.refl _ w1).drew)))
  clear b1 M H
  go_wp2_with fail
  generalize w.heap.size = g at *
  go_region_held3 (fun w' => w'.cell? ⟨g, 0, none⟩ = some (.int .u8 (p.kind : Int)) ∧ w'.cell? ⟨g, 1, none⟩ = some (.int .u8 (p.level : Int)) ∧ w'.cell? ⟨g, 2, none⟩ = some (.int .u32 (p.id : Int)) ∧ w'.cell? ⟨g, 3, none⟩ = some (.int .u64 (p.lsn : Int)) ∧ w'.cell? ⟨g, 4, none⟩ = some (.int .u32 (p.next : Int)))
    (first | exact E0.out.cells | exact E1.cells | exact E2.cells | exact E3.cells | exact E4.cells | exact E5.cells | exact E6.cells)
    (first | (go_at_call 25; (with_reducible refine (K0.out _).mono ?_); rintro e w2 ⟨rfl, b2⟩; have E1 := E0.out.later b2; clear b2) | (go_at_call 25; (with_reducible refine (K1.out _).mono ?_); rintro e w2 ⟨rfl, b2⟩; have E2 := E1.later b2; clear b2) | (go_at_call 25; (with_reducible refine (K2.out _).mono ?_); rintro e w2 ⟨rfl, b2⟩; have E3 := E2.later b2; clear b2) | (go_at_call 25; (with_reducible refine (K3.out _).mono ?_); rintro e w2 ⟨rfl, b2⟩; have E4 := E3.later b2; clear b2) | (go_at_call 25; (with_reducible refine (K4.out _).mono ?_); rintro e w2 ⟨rfl, b2⟩; have E5 := E4.later b2; clear b2) | (go_at_call 25; (with_reducible refine (K5.out _).mono ?_); rintro e w2 ⟨rfl, b2⟩; have E6 := E5.later b2; clear b2))
  have E := Lib.hid E6
  clear E0 E1 E2 E3 E4 E5 E6 K0 K1 K2 K3 K4 K5 s0 s1 s2 s3 s4 s5
  rw [HX.out]
  obtain ⟨Y, hY⟩ : ∃ Y, Y = Slot.strB (headL p) := ⟨_, rfl⟩
  have HY := Lib.hid hY
  have sY : Y.size = 20 := by rw [hY]; exact headL_len p
  rw [← hY]
  have NW : Hid (Calls Try.prog 26 #[.int .i64 488] w2 fun e w' => e = .returned (.pointer (some ⟨w2.heap.size + 1, 0, none⟩)) ∧ newR w2 w' 488) := Lib.hid (qnew_any 488 w2 (by omega) (by omega))
  clear HX hY
  go_wp2_with fail
  refine NW.out.mono ?_
  rintro e w3 ⟨rfl, h3⟩
  have F0 : Hid (Fil w2 w3 (w2.heap.size + 1) (arA p.rows 0)) := Lib.hid (Fil.new h3)
  clear h3 NW
  generalize w2.heap.size + 1 = q at *
  have n2 : n ≤ 1000 := by rw [N.out]; have := used_len p.rows; have := U.out; omega
  go_wp2_with fail
  go_loopw [6] (fun i wr => ∃ k : Nat, k ≤ n ∧ i = .int .i64 k ∧ Fil w2 wr q (arA p.rows k)) (fun i _ => n - (intOf i).toNat)
  case atStart => exact ⟨0, by omega, by go_num, F0.out⟩
  case round =>
    obtain ⟨k, hk, rfl, hf⟩ := hrel
    have FF := Lib.hid hf
    have EE := Lib.hid (E.out.later hf.2)
    clear F0 hf
    have c5 := EE.out.cell5
    by_cases hlt : k < n
    · have hlt2 : k < p.rows.length := by rw [← N.out]; exact hlt
      have hr := EE.out.rows
      rw [N.out] at hr
      obtain ⟨b, of, rfl, _, hc⟩ := hr.at (k := k) hlt2
      obtain ⟨q0, q1, q2⟩ := ar_step' hlt2 U.out
      have P := Lib.hid (qput_room q0 FF.out.1 k (nth p.rows k) q1 q2)
      obtain ⟨s, hs⟩ : ∃ s, s = nth p.rows k := ⟨_, rfl⟩
      have SE := Lib.hid hs
      rw [← hs] at hc P
      clear hr hs q0 q1 q2 hlt2
      go_wp2_with fail
      refine P.out.mono ?_
      rintro e w4 ⟨rfl, h4⟩
      have F2 : Hid (Fil w2 w4 q (arA p.rows (k + 1))) := by
        have := FF.out.qp h4
        rw [SE.out] at this
        exact Lib.hid this
      clear h4 P
      go_wp2_with fail
      go_roundw
      case rel => exact ⟨k + 1, by omega, by go_num, F2.out⟩
      case measure => simp [intOf]; omega
    · obtain rfl : k = n := by omega
      have hl := U.out
      obtain ⟨k1, k2, _⟩ := arA_is p.rows hl
      have bb := qbytes_any (a := arA p.rows k) (by rw [N.out]; exact k1) FF.out.1
      rw [N.out] at bb
      have sl := fun W => rseal_body MM.out W
      rw [← HY.out] at sl
      obtain ⟨Z, hZ⟩ : ∃ Z, Z = Slot.strB (Slot.imgA (arA p.rows p.rows.length)) := ⟨_, rfl⟩
      have sZ : Z.size = 488 := by rw [hZ]; show (imgA _).length = _; rw [Slot.img_len k1, k2]
      rw [← hZ] at bb sl
      have BB := Lib.hid bb
      have SL := Lib.hid sl
      obtain ⟨ES, hES⟩ : ∃ E, E = encS p := ⟨_, rfl⟩
      rw [← hES] at SL
      have EH := Lib.hid hES
      clear bb sl k1 k2 hZ hl hES
      go_wp2_with fail
      refine BB.out.mono ?_
      rintro e w4 ⟨rfl, b4⟩
      have E2 := Lib.hid (EE.out.later b4)
      clear b4 BB
      go_wp2_with fail
      refine (SL.out _).mono ?_
      rintro e w5 ⟨rfl, b5⟩
      have E3 := Lib.hid (E2.out.later b5)
      clear b5 SL
      go_wp2_with fail
      go_ret2
      exact ⟨by rw [← EH.out]; rfl, E3.out.below⟩

theorem rencode_any {w : World} {v : Value} (p : Pg) (hw : p.wf) (h : Rows w v p.rows) (hu : used p.rows ≤ 1000000) :
    Calls Try.prog 11 #[pgV p v] w fun e w' => e = .returned (.tuple #[.string (encS p), .int .i64 (encE p)]) ∧ Below w.heap.size w w' := by
  cases hm : mayP p with
  | true =>
    have e : encE p = 0 := by unfold encE; rw [if_pos hm]
    rw [e]
    exact rencode_yes p hw h hm
  | false =>
    have e : encE p = 2 := by unfold encE; rw [if_neg (by rw [hm]; decide)]
    have e2 : encS p = ⟨#[]⟩ := by unfold encS; rw [if_neg (by rw [hm]; decide)]
    rw [e, e2]
    exact rencode_no p h hu hm

end Go.Proofs.Ytmandeohbiagfaa.Page

namespace Go.Proofs.Ytmandeohbiagfaa.Page
open Go.RowKit Slot
attribute [local go_sem ↓] Go.wp_at_zero Go.wp_at_succ

theorem Bx.all {w w' : World} {g : Nat} {p : Pg} {v : Value} (h : Bx w w' g p v) : BxC w' g p v ∧ w'.cell? ⟨g, 5, none⟩ = some v := ⟨h.cells, h.cell5⟩
/-- a page of the call's own, made -/
theorem Bx.make {W0 w : World} {p : Pg} {v : Value} (h : Rows w v p.rows) (b : Below W0.heap.size W0 w) : Bx W0 (w.alloc (.cells (pgC p v) 26)) w.heap.size p v :=
  ⟨heap_alloc_new w _, h.alloc _, b.alloc b.size _⟩
/-- two pages of the call's own -/
structure Two (w W : World) (g h : Nat) (P Q : Pg) (u v : Value) : Prop where
  a : Bx w W g P u
  b : Bx w W h Q v
theorem Two.later {w W W' : World} {g h : Nat} {P Q : Pg} {u v : Value} (t : Two w W g h P Q u v) (b : Below W.heap.size W W') : Two w W' g h P Q u v := ⟨t.a.later b, t.b.later b⟩
theorem Two.start {w : World} {P Q : Pg} {u v : Value} (hp : Rows w u P.rows) (hq : Rows w v Q.rows) :
    Two w ((w.alloc (.cells (pgC P u) 26)).alloc (.cells (pgC Q v) 26)) w.heap.size (w.heap.size + 1) P Q u v := by
  have b1 := (Below.refl w.heap.size w).alloc (Nat.le_refl _) (.cells (pgC P u) 26)
  have t1 : Bx w (w.alloc (.cells (pgC P u) 26)) w.heap.size P u := ⟨heap_alloc_new w _, hp.alloc _, b1⟩
  have b2 := (Below.refl (w.alloc (.cells (pgC P u) 26)).heap.size (w.alloc (.cells (pgC P u) 26))).alloc (Nat.le_refl _) (.cells (pgC Q v) 26)
  refine ⟨t1.later b2, ?_⟩
  have t2 := Bx.make (W0 := w) (w := w.alloc (.cells (pgC P u) 26)) (hq.alloc (.cells (pgC P u) 26)) b1
  rw [show (w.alloc (.cells (pgC P u) 26)).heap.size = w.heap.size + 1 by simp] at t2
  exact t2
/-- the cells of a page's box -/
def BxA (W : World) (g : Nat) (P : Pg) (u : Value) : Prop := W.cell? ⟨g, 0, none⟩ = some (.int .u8 (P.kind : Int)) ∧ W.cell? ⟨g, 1, none⟩ = some (.int .u8 (P.level : Int)) ∧ W.cell? ⟨g, 2, none⟩ = some (.int .u32 (P.id : Int)) ∧ W.cell? ⟨g, 3, none⟩ = some (.int .u64 (P.lsn : Int)) ∧ W.cell? ⟨g, 4, none⟩ = some (.int .u32 (P.next : Int)) ∧ W.cell? ⟨g, 5, none⟩ = some u
theorem Bx.six {w w' : World} {g : Nat} {p : Pg} {v : Value} (h : Bx w w' g p v) : BxA w' g p v :=
  ⟨h.cells.1, h.cells.2.1, h.cells.2.2.1, h.cells.2.2.2.1, h.cells.2.2.2.2, h.cell5⟩

/-- the page, and its rows -/
def alP : Pg := ⟨1, 0, 7, 300, 9, [⟨#[97, 98]⟩, ⟨#[]⟩]⟩
theorem al_may : mayP alP = true ∧ roomI alP.rows = 470 ∧ used alP.rows ≤ 1000000 ∧ mayP Pg.zero = false := by decide +kernel
theorem al_wf : alP.wf := ⟨by decide, by decide, by decide, by decide, by decide⟩
theorem al_wf0 : Pg.zero.wf := ⟨by decide, by decide, by decide, by decide, by decide⟩
theorem al_rows (w : World) : Rows (w.alloc (.cells #[.string ⟨#[97, 98]⟩, .string ⟨#[]⟩] 9)) (.slice (some ⟨w.heap.size, 0, none⟩) 2 2) alP.rows := by
  refine ⟨_, 2, rfl, .inr ⟨_, 0, rfl, by simp, fun j hj => ?_⟩⟩
  rw [cell_of_row _ _ _ _ _ _ (heap_alloc_new w _)]
  have h2 : j < 2 := hj
  obtain rfl | rfl : j = 0 ∨ j = 1 := by omega
  · rfl
  · rfl
/-- a text of 513 bytes is no page's -/
theorem al_long {s : ByteArray} (h : s.size = 512) : (s ++ ⟨#[120]⟩).size ≠ 512 ∧ (s ++ ⟨#[120]⟩).size ≤ 281474976710656 := by
  have e : (s ++ ⟨#[120]⟩ : ByteArray).size = 513 := by rw [ByteArray.size_append, h]; rfl
  rw [e]
  exact ⟨by decide, by decide⟩

set_option maxRecDepth 100000 in
set_option maxHeartbeats 4000000 in
theorem alive_any (w : World) : Calls Try.prog 9 #[] w fun e w' => e = .returned (.bool true) ∧ Below w.heap.size w w' := by
  obtain ⟨m1, m2, m3, m4⟩ := al_may
  have hE : ∀ W v, Rows W v alP.rows → Calls Try.prog 10 #[pgV alP v] W fun e w' => e = .returned (.tuple #[.string (encS alP), .int .i64 0]) ∧ Below W.heap.size W w' := fun W v h => by
    have := encode_any alP al_wf h m3
    rw [show encE alP = 0 by unfold encE; rw [if_pos m1]] at this
    exact this
  have h5 := enc_size m1
  have hD : ∀ W, Calls Try.prog 18 #[.string (encS alP)] W (DecPost alP 0 W) := fun W => decode_any (encS alP) W (by omega) (dec_enc al_wf m1)
  have hX : ∀ W, Calls Try.prog 18 #[.string (encS alP ++ ⟨#[120]⟩)] W (DecPost Pg.zero 60 W) := fun W => decode_size _ W (al_long h5).2 (al_long h5).1
  have hZ : ∀ W, Calls Try.prog 10 #[pgV Pg.zero (.slice none 0 0)] W fun e w' => e = .returned (.tuple #[.string (encS Pg.zero), .int .i64 2]) ∧ Below W.heap.size W w' := fun W => by
    have := encode_any (w := W) (v := .slice none 0 0) Pg.zero al_wf0 (Rows.nil W none 0) (by decide)
    rw [show encE Pg.zero = 2 by unfold encE; rw [if_neg (by rw [m4]; decide)]] at this
    exact this
  have hR1 : ∀ W, Calls Try.prog 14 #[pgV ⟨0, 0, 1, 0, 0, []⟩ (.slice none 0 0)] W fun e w' => e = .returned (.int .i64 480) ∧ Below W.heap.size W w' := fun W =>
    room_any (w := W) (v := .slice none 0 0) ⟨0, 0, 1, 0, 0, []⟩ (Rows.nil W none 0) (by decide)
  have hR2 : ∀ W v, Rows W v alP.rows → Calls Try.prog 14 #[pgV alP v] W fun e w' => e = .returned (.int .i64 470) ∧ Below W.heap.size W w' := fun W v h => by
    have := room_any alP h m3
    rw [m2] at this
    exact this
  have hS : ∀ W v1 v2, Rows W v1 alP.rows → Rows W v2 alP.rows → Calls Try.prog 16 #[pgV alP v1, pgV alP v2] W fun e w' => e = .returned (.bool true) ∧ Below W.heap.size W w' := fun W v1 v2 h1 h2 => by
    have := same_any alP alP h1 h2 (by decide) (by decide)
    rw [(same_iff alP alP).2 rfl] at this
    exact this
  have S5 : ((encS alP).size : Int) = 512 := by rw [h5]; rfl
  have HE := Lib.hid hE
  have HD := Lib.hid hD
  have HX := Lib.hid hX
  have HZ := Lib.hid hZ
  have HR1 := Lib.hid hR1
  have HR2 := Lib.hid hR2
  have HS := Lib.hid hS
  clear m1 m2 m3 m4 hE hD hX hZ hR1 hR2 hS h5
  generalize encS alP = s at *
  generalize encS Pg.zero = z at *
  go_enter Try.func9, Try.ntmps9
  go_wp2_with fail
  have A := Bx.make (p := alP) (al_rows w) ((Below.refl w.heap.size w).alloc (Nat.le_refl _) (.cells #[.string ⟨#[97, 98]⟩, .string ⟨#[]⟩] 9))
  have hg : (w.alloc (.cells #[.string ⟨#[97, 98]⟩, .string ⟨#[]⟩] 9)).heap.size = w.heap.size + 1 := by simp
  rw [hg] at A
  obtain ⟨ad, had⟩ : ∃ ad, ad = some (⟨w.heap.size, 0, none⟩ : Addr) := ⟨_, rfl⟩
  obtain ⟨g, hgg⟩ : ∃ g, g = w.heap.size + 1 := ⟨_, rfl⟩
  rw [← had, ← hgg] at A ⊢
  change Calls Try.prog 10 #[pgV alP (.slice ad 2 2)] ((w.alloc (.cells #[.string ⟨#[97, 98]⟩, .string ⟨#[]⟩] 9)).alloc (.cells (pgC alP (.slice ad 2 2)) 26)) _
  generalize (w.alloc (.cells #[.string ⟨#[97, 98]⟩, .string ⟨#[]⟩] 9)).alloc (.cells (pgC alP (.slice ad 2 2)) 26) = W1 at A ⊢
  clear hg had hgg
  refine (HE.out _ _ A.rows).mono ?_
  rintro e w2 ⟨rfl, b2⟩
  have A2 := Lib.hid (A.later b2)
  clear A b2 HE
  go_wp2_with fail
  refine (HD.out _).mono ?_
  rintro e w3 ⟨b3, v3, rfl, r3⟩
  have A3 := Lib.hid (A2.out.later b3)
  obtain ⟨ad3, c3, rfl, _⟩ := id r3
  have C4 := Lib.hid (Bx.make r3 A3.out.below)
  have A4 := Lib.hid (A3.out.later ((Below.refl _ _).alloc (Nat.le_refl _) (.cells (pgC alP (.slice ad3 alP.rows.length c3)) 26)))
  clear b3 r3 A2 A3 HD
  unfold pgV
  go_wp2_with fail
  change Calls Try.prog 10 #[pgV Pg.zero (.slice none 0 0)] (w3.alloc (.cells (pgC alP (.slice ad3 alP.rows.length c3)) 26)) _
  generalize w3.alloc (.cells (pgC alP (.slice ad3 alP.rows.length c3)) 26) = W4 at *
  generalize w3.heap.size = g4 at *
  refine (HZ.out _).mono ?_
  rintro e w5 ⟨rfl, b5⟩
  have A5 := Lib.hid (A4.out.later b5)
  have C5 := Lib.hid (C4.out.later b5)
  clear b5 A4 C4 HZ
  go_wp2_with fail
  refine (HX.out _).mono ?_
  rintro e w6 ⟨b6, v6, rfl, r6⟩
  obtain ⟨ad6, c6, rfl, _⟩ := id r6
  have A6 : Hid (Bx w (w6.alloc (.cells #[.int .u8 (Pg.zero.kind : Int), .int .u8 (Pg.zero.level : Int), .int .u32 (Pg.zero.id : Int), .int .u64 (Pg.zero.lsn : Int), .int .u32 (Pg.zero.next : Int), .slice ad6 Pg.zero.rows.length c6] 26)) g alP (.slice ad 2 2)) := Lib.hid ((A5.out.later b6).later ((Below.refl _ _).alloc (Nat.le_refl _) _))
  have C6 : Hid (Bx w (w6.alloc (.cells #[.int .u8 (Pg.zero.kind : Int), .int .u8 (Pg.zero.level : Int), .int .u32 (Pg.zero.id : Int), .int .u64 (Pg.zero.lsn : Int), .int .u32 (Pg.zero.next : Int), .slice ad6 Pg.zero.rows.length c6] 26)) g4 alP (.slice ad3 2 c3)) := Lib.hid ((C5.out.later b6).later ((Below.refl _ _).alloc (Nat.le_refl _) _))
  obtain ⟨⟨a0, a1, a2, a3, a4⟩, a5⟩ := A6.out.all
  obtain ⟨⟨d0, d1, d2, d3, d4⟩, d5⟩ := C6.out.all
  have HS6 := Lib.hid (HS.out _ _ _ A6.out.rows C6.out.rows)
  clear b6 r6 A5 C5 HX HS
  unfold pgV
  go_wp2_with fail
  change Calls Try.prog 16 #[pgV alP (.slice ad 2 2), pgV alP (.slice ad3 2 c3)] (w6.alloc (.cells #[.int .u8 (Pg.zero.kind : Int), .int .u8 (Pg.zero.level : Int), .int .u32 (Pg.zero.id : Int), .int .u64 (Pg.zero.lsn : Int), .int .u32 (Pg.zero.next : Int), .slice ad6 Pg.zero.rows.length c6] 26)) _
  clear a0 a1 a2 a3 a4 a5 d0 d1 d2 d3 d4 d5 C6
  refine HS6.out.mono ?_
  rintro e w7 ⟨rfl, b7⟩
  have A7 := Lib.hid (A6.out.later b7)
  clear b7 HS6 A6
  go_wp2_with fail
  change Calls Try.prog 14 #[pgV ⟨0, 0, 1, 0, 0, []⟩ (.slice none 0 0)] w7 _
  refine (HR1.out _).mono ?_
  rintro e w8 ⟨rfl, b8⟩
  have A8 := Lib.hid (A7.out.later b8)
  obtain ⟨⟨a0, a1, a2, a3, a4⟩, a5⟩ := A8.out.all
  clear b8 HR1 A7
  go_wp2_with fail
  change Calls Try.prog 14 #[pgV alP (.slice ad 2 2)] w8 _
  refine (HR2.out _ _ A8.out.rows).mono ?_
  rintro e w9 ⟨rfl, b9⟩
  have B9 := Lib.hid (A8.out.later b9).below
  clear a0 a1 a2 a3 a4 a5 b9 A8
  go_wp2_with fail
  go_ret
  exact ⟨rfl, B9.out⟩

end Go.Proofs.Ytmandeohbiagfaa.Page

namespace Go.Proofs.Ytmandeohbiagfaa.Page
open Go.RowKit
attribute [local go_sem ↓] Go.wp_at_zero Go.wp_at_succ

/-- v is a slice of these truths -/
def Tru (w : World) (v : Value) (l : List Bool) : Prop :=
  ∃ ad c, v = .slice ad l.length c ∧ (l = [] ∨ ∃ b o, ad = some ⟨b, o, none⟩ ∧ b < w.heap.size ∧ ∀ j, j < l.length → w.cell? ⟨b, o + j, none⟩ = some (.bool (l.getD j false)))
theorem Tru.later {w w' : World} {v : Value} {l : List Bool} (h : Tru w v l) (t : Below w.heap.size w w') : Tru w' v l := by
  obtain ⟨ad, c, hv, h1⟩ := h
  refine ⟨ad, c, hv, h1.imp id ?_⟩
  rintro ⟨b, o, ha, hb, hc⟩
  refine ⟨b, o, ha, Nat.lt_of_lt_of_le hb t.size, fun j hj => ?_⟩
  rw [World.cell?_of_block (t.block b hb)]
  exact hc j hj
theorem Tru.at {w : World} {ad : Option Addr} {c : Nat} {l : List Bool} (h : Tru w (.slice ad l.length c) l) {k : Nat} (hk : k < l.length) :
    ∃ b o, ad = some ⟨b, o, none⟩ ∧ w.cell? ⟨b, o + k, none⟩ = some (.bool (l.getD k false)) := by
  obtain ⟨ad', c', hv, h1⟩ := h
  simp only [Value.slice.injEq] at hv
  obtain ⟨rfl, _, rfl⟩ := hv
  rcases h1 with rfl | ⟨b, o, ha, hb, hc⟩
  · simp at hk
  · exact ⟨b, o, ha, hc k hk⟩

/-- the first k bytes torn -/
def mix (o n : List UInt8) (l : List Bool) (k : Nat) : List UInt8 := (List.range 512).map fun j => if j < k ∧ l.getD (j / 128) false = true then n.getD j 0 else o.getD j 0
def tornS (o n : ByteArray) (l : List Bool) : ByteArray := if o.size = 512 ∧ n.size = 512 then Slot.strB (mix o.data.toList n.data.toList l 512) else ⟨#[]⟩
def tornE (o n : ByteArray) : Int := if o.size = 512 ∧ n.size = 512 then 0 else 2
theorem mix_len (o n : List UInt8) (l : List Bool) (k : Nat) : (mix o n l k).length = 512 := by simp [mix]
theorem mix_get (o n : List UInt8) (l : List Bool) (k : Nat) {j : Nat} (h : j < 512) : (mix o n l k)[j]? = some (if j < k ∧ l.getD (j / 128) false = true then n.getD j 0 else o.getD j 0) := by
  unfold mix
  rw [List.getElem?_map, List.getElem?_range h]
  rfl
theorem getD_get {l : List UInt8} {j : Nat} (h : j < l.length) : l[j]? = some (l.getD j 0) := by
  rw [List.getD_eq_getElem?_getD, List.getElem?_eq_getElem h]
  rfl
theorem mix_zero {o n : List UInt8} (l : List Bool) (h : o.length = 512) : mix o n l 0 = o := by
  apply List.ext_getElem?
  intro j
  by_cases hj : j < 512
  · rw [mix_get _ _ _ _ hj, if_neg (by omega), getD_get (by omega)]
  · rw [List.getElem?_eq_none (by rw [mix_len]; omega), List.getElem?_eq_none (by omega)]
/-- nothing more is taken where it is not kept -/
theorem mix_skip {o n : List UInt8} {l : List Bool} {a b : Nat} (hab : a ≤ b) (h : ∀ j, a ≤ j → j < b → l.getD (j / 128) false = false) : mix o n l b = mix o n l a := by
  apply List.ext_getElem?
  intro j
  by_cases hj : j < 512
  · rw [mix_get _ _ _ _ hj, mix_get _ _ _ _ hj]
    by_cases h1 : j < a
    · have : (j < b) ↔ (j < a) := by omega
      simp only [this]
    · by_cases h2 : j < b
      · rw [if_neg (by rw [h j (by omega) h2]; simp), if_neg (by omega)]
      · rw [if_neg (by omega), if_neg (by omega)]
  · rw [List.getElem?_eq_none (by rw [mix_len]; omega), List.getElem?_eq_none (by rw [mix_len]; omega)]
theorem mix_take {o n : List UInt8} {l : List Bool} {a b : Nat} (hab : a ≤ b) (hb : b ≤ 512) (hn : n.length = 512) (h : ∀ j, a ≤ j → j < b → l.getD (j / 128) false = true) : mix o n l b = Slot.putL (mix o n l a) a ((n.drop a).take (b - a)) := by
  have hl : ((n.drop a).take (b - a)).length = b - a := by simp; omega
  have hk : a + ((n.drop a).take (b - a)).length ≤ (mix o n l a).length := by rw [hl, mix_len]; omega
  apply List.ext_getElem?
  intro j
  rw [Slot.putL_at hk, hl]
  by_cases hj : j < 512
  · rw [mix_get _ _ _ _ hj]
    by_cases h1 : a ≤ j ∧ j < a + (b - a)
    · rw [if_pos h1, if_pos ⟨by omega, h j (by omega) (by omega)⟩, List.getElem?_take, if_pos (by omega), List.getElem?_drop, show a + (j - a) = j by omega, getD_get (by omega)]
    · rw [if_neg h1, mix_get _ _ _ _ hj]
      have : (j < b) ↔ (j < a) := by omega
      simp only [this]
  · rw [List.getElem?_eq_none (by rw [mix_len]; omega), if_neg (by omega), List.getElem?_eq_none (by rw [mix_len]; omega)]
theorem sec_of {i j : Nat} (h1 : 128 * i ≤ j) (h2 : j < 128 * (i + 1)) : j / 128 = i := by omega

section
variable {w : World} {g c : Nat} {b : List UInt8}
set_option maxRecDepth 100000 in
theorem copy_part (h : Slot.Row w g b) (ty : TypeId) {k m : Nat} {x : ByteArray} (hx : x.size = m - k) (h0 : k < m) (hk : m ≤ b.length) (hc : b.length ≤ c) : (Builtin.copy_ #[45, 9] ty #[.slice (Slot.base g k c) (m - k) (c - k), .string x]).run Try.prog w = .ok (goInt x.size) (w.setCells g k (Lib.byteCells x.data.toList)) := by
  rw [Slot.base_lt (by omega)]
  have hl : (Lib.byteCells x.data.toList).length = x.size := by rw [Slot.byteCells_len]; rfl
  have hst := run_storeCells_cells (P := Try.prog) g k (Lib.byteCells x.data.toList) 0 w (fun j hj => by rw [hl] at hj; rw [Nat.add_zero, h.cell (by omega)]; rfl) (fun j hj => by rw [hl] at hj; rw [Nat.add_zero]; exact h.free (by omega)) (Lib.byteCells_one _)
  have hmin : Nat.min x.size (m - k) = x.size := Nat.min_eq_left (by omega)
  have htk : List.take x.size (List.map (fun b : UInt8 => Value.int IntKind.u8 (b.toNat : Int)) x.data.toList) = Lib.byteCells x.data.toList := by
    rw [List.take_of_length_le (by rw [List.length_map]; exact Nat.le_refl _)]
    rfl
  simp only [Nat.add_zero] at hst
  have hs := Slot.sz_byte
  cases hq : Try.prog.info? 5 with
  | none => simp [hq] at hs
  | some i =>
    simp [Builtin.copy_, run_underlying Try.underlying45, Builtin.lenOf, Builtin.firstCells, sizeOf, typeInfo, hq, hmin]
    rw [htk, hst]
    simp [Result.andThen]
variable {ops : Array Oper} {rest : List Oper} {o : Oper} {a : Act} {Q : Exit → Act → World → Prop}
set_option maxRecDepth 100000 in
theorem wpList_copy_part (h : Slot.Row w g b) (hgd : o.guard = none) (d s : Operand) (ho : o.op = .call { callee := .builtin .copy, args := #[d, s], argTypes := #[45, 9] }) (k m : Nat) (x : ByteArray) (hx : x.size = m - k) (h0 : k < m) (hk : m ≤ b.length) (hc : b.length ≤ c)
    (hd : a.eval d = .slice (Slot.base g k c) (m - k) (c - k)) (hs : a.eval s = .string x) (hn : wpList Try.prog ops Q rest (a.put o.dst (goInt x.size)) (w.setCells g k (Lib.byteCells x.data.toList))) : wpList Try.prog ops Q (o :: rest) a w := by
  refine wpList_plain hgd fun K hK => ?_
  unfold Oper.wp execOp
  simp only [ho, resolve, invoke, builtin, Sem.run_bind, Sem.run_pure, Result.andThen_ok, List.map_toArray, List.map_cons, List.map_nil, hd, hs, copy_part h o.type hx h0 hk hc]
  exact hK _ _ hn
end

set_option maxRecDepth 100000 in
theorem torn_no (o n : ByteArray) (v : Value) (w : World) (_ho : o.size ≤ 281474976710656) (_hn : n.size ≤ 281474976710656) (h : ¬ (o.size = 512 ∧ n.size = 512)) :
    Calls Try.prog 20 #[.string o, .string n, v] w fun e w' => e = .returned (.tuple #[.string ⟨#[]⟩, .int .i64 2]) ∧ w = w' := by
  by_cases h1 : o.size = 512
  · have e1 : ((o.size : Int) != 512) = false := by rw [h1]; rfl
    have e2 : ((n.size : Int) != 512) = true := by simp; omega
    clear h h1
    go_enter Try.func20, Try.ntmps20
    go_wp2_with fail
    go_step3
    go_wp2_with fail
    rw [Exit.noGoto_ret]
    go_ret2
    exact ⟨rfl, rfl⟩
  · have e1 : ((o.size : Int) != 512) = true := by simp; omega
    clear h h1
    go_enter Try.func20, Try.ntmps20
    go_wp2_with fail
    go_step3
    go_wp2_with fail
    rw [Exit.noGoto_ret]
    go_ret2
    exact ⟨rfl, rfl⟩

set_option maxRecDepth 100000 in
set_option maxHeartbeats 4000000 in
theorem torn_yes (o n : ByteArray) {v : Value} {l : List Bool} {w : World} (ho : o.size = 512) (hn : n.size = 512) (h : Tru w v l) (hl : l.length ≤ 1000000) :
    Calls Try.prog 20 #[.string o, .string n, v] w fun e w' => e = .returned (.tuple #[.string (Slot.strB (mix o.data.toList n.data.toList l 512)), .int .i64 0]) ∧ Below w.heap.size w w' := by
  obtain ⟨ad, c, rfl, _⟩ := id h
  have e1 : ((o.size : Int) != 512) = false := by rw [ho]; rfl
  have e2 : ((n.size : Int) != 512) = false := by rw [hn]; rfl
  obtain ⟨cap, W1, hcv, hr, hcap, hb, _⟩ := Slot.bytes_row o w
  have HR := Lib.hid (show Slot.Row W1 w.heap.size (mix o.data.toList n.data.toList l 0) by rw [mix_zero l ho]; exact hr)
  have HC := Lib.hid (show 512 ≤ cap by omega)
  have HB := Lib.hid hb
  have H := Lib.hid h
  have HO := Lib.hid ho
  have HN := Lib.hid hn
  obtain ⟨m, hm⟩ : ∃ m, m = l.length := ⟨_, rfl⟩
  have M := Lib.hid hm
  have hm2 : m ≤ 1000000 := by omega
  rw [← hm]
  clear h hl hm ho hn hr hcap hb
  go_enter Try.func20, Try.ntmps20
  go_wp2_with fail
  go_step3
  go_wp2_with fail
  clear e1 e2 hcv
  go_step3
  go_wp2_with fail
  obtain ⟨g, hg⟩ : ∃ g, g = w.heap.size := ⟨_, rfl⟩
  have G := Lib.hid hg
  rw [← hg] at HR HB ⊢
  clear hg
  go_loopw [22] (fun x wr => ∃ i : Nat, i ≤ 4 ∧ x = .int .i64 i ∧ Slot.Row wr g (mix o.data.toList n.data.toList l (128 * i)) ∧ Below g w wr) (fun x _ => 4 - (intOf x).toNat)
  case atStart => exact ⟨0, by omega, by go_num, HR.out, HB.out⟩
  case round =>
    obtain ⟨i, hi, rfl, hrow, hb⟩ := hrel
    clear HR HB
    have R := Lib.hid hrow
    have B := Lib.hid hb
    clear hrow hb
    by_cases h4 : i < 4
    · have skip : l.getD i false = false → Hid (Slot.Row wr g (mix o.data.toList n.data.toList l (128 * (i + 1)))) := fun hf => by
        rw [mix_skip (a := 128 * i) (by omega) fun j h1 h2 => by rw [sec_of h1 h2]; exact hf]
        exact R
      by_cases hlt : i < m
      · have ht := H.out.later (show Below w.heap.size w wr by rw [← G.out]; exact B.out)
        obtain ⟨b, of, rfl, hc⟩ := ht.at (k := i) (by rw [← M.out]; exact hlt)
        clear ht
        cases hf : l.getD i false with
        | false =>
          have R2 := skip hf
          rw [hf] at hc
          clear skip hf
          go_wp2_with fail
          exact ⟨⟨i + 1, by omega, by go_num, R2.out, B.out⟩, by simp [intOf]; omega⟩
        | true =>
          rw [hf] at hc
          have e3 : ((128 * i : Nat) : Int) = (i : Int) * 128 := by omega
          have e4 : ((128 * (i + 1) : Nat) : Int) = ((i : Int) + 1) * 128 := by omega
          obtain ⟨V, hV⟩ : ∃ V, V = Value.slice (Slot.base g (128 * i) cap) (128 * (i + 1) - 128 * i) (cap - 128 * i) := ⟨_, rfl⟩
          obtain ⟨X, hX⟩ : ∃ X, X = n.extract (128 * i) (128 * (i + 1)) := ⟨_, rfl⟩
          have sl : ∀ W, (Instr.sliceAt 45 (.slice (some ⟨g, 0, none⟩) o.size cap) (some (.int .i64 ((i : Int) * 128))) (some (.int .i64 (((i : Int) + 1) * 128))) none).run Try.prog W = .ok V W := fun W => by
            rw [← e3, ← e4, hV]
            exact Slot.slice_part W (by omega) (by have := HC.out; omega)
          have sn : ∀ W, (Instr.sliceAt 9 (.string n) (some (.int .i64 ((i : Int) * 128))) (some (.int .i64 (((i : Int) + 1) * 128))) none).run Try.prog W = .ok (.string X) W := fun W => by
            rw [← e3, ← e4, hX, run_sliceAt_string (P := Try.prog) W 9 _ _ _ _ Try.underlying9, run_slice_string_if (P := Try.prog) W 9 n .i64 .i64 _ _ Try.underlying9, if_pos (by have := HN.out; omega), if_pos (by omega), Int.toNat_natCast, Int.toNat_natCast]
          have hXs : X.size = 128 * (i + 1) - 128 * i := by rw [hX, ByteArray.size_extract, HN.out]; omega
          have hXd : X.data.toList = (n.data.toList.drop (128 * i)).take (128 * (i + 1) - 128 * i) := by rw [hX, Sum.part_list]
          have hrow2 := (show Slot.Row wr.drew g (mix o.data.toList n.data.toList l (128 * i)) from R.out).put (k := 128 * i) (t := X.data.toList) (by rw [mix_len]; show 128 * i + X.size ≤ 512; omega)
          rw [hXd, ← mix_take (a := 128 * i) (b := 128 * (i + 1)) (by omega) (by omega) HN.out (fun j h1 h2 => by rw [sec_of h1 h2]; exact hf), ← hXd] at hrow2
          have HV := Lib.hid hV
          have HX := Lib.hid hXs
          have R2 := Lib.hid hrow2
          clear skip hf hV hX hXs hXd hrow2
          have cp := Lib.hid (show 128 * (i + 1) ≤ (mix o.data.toList n.data.toList l (128 * i)).length from by rw [mix_len]; omega)
          have cc := Lib.hid (show (mix o.data.toList n.data.toList l (128 * i)).length ≤ cap from by rw [mix_len]; exact HC.out)
          have R1 : Hid (Slot.Row wr.drew g (mix o.data.toList n.data.toList l (128 * i))) := Lib.hid R.out
          have R3 : Hid (Slot.Row (wr.drew.setCells g (128 * i) (Lib.byteCells X.data.toList)) g (mix o.data.toList n.data.toList l (128 * (i + 1)))) := Lib.hid R2.out
          have B3 : Hid (Below g w (wr.drew.setCells g (128 * i) (Lib.byteCells X.data.toList))) := Lib.hid (((Touch.setCells (F := fun x => x = g) rfl (Lib.byteCells X.data.toList) (128 * i) (Touch.refl _ wr.drew)).below (B := g) (Nat.le_of_lt R1.out.lt) (fun x hx => by rw [hx]; exact Nat.le_refl _)) |> (B.out.drew).trans)
          clear R R2 B
          go_wp2_with fail
          (refine wp_region_still_tail 8 (by kernel_rfl) (by kernel_rfl) (still_of_quiet _ _ ?_); simp only [List.take_succ_cons, List.take_zero, List.drop_succ_cons, List.drop_zero]; (repeat (first | go_big_quiet_skip | (go_big_quiet_want; go_big_quiet_op; first | go_big_quiet_on | (apply Exists.intro; refine ⟨?_, ?_⟩; (first | fail); go_big_quiet_on)))); refine wpQuiet_nil ?_)
          change wpList _ _ _ _ _ wr.drew
          refine wpList_copy_part R1.out rfl _ _ rfl (128 * i) (128 * (i + 1)) X HX.out (by omega) cp.out cc.out HV.out rfl ?_
          generalize wr.drew.setCells g (128 * i) (Lib.byteCells X.data.toList) = W2 at *
          clear sl sn e3 e4 hc
          go_wp2_with fail
          go_roundw
          case rel => exact ⟨i + 1, by omega, by go_num, R3.out, B3.out⟩
          case measure => simp [intOf]; omega
      · have hf : l.getD i false = false := by
          rw [List.getD_eq_getElem?_getD, List.getElem?_eq_none (by rw [← M.out]; omega)]
          rfl
        have R2 := skip hf
        clear skip hf
        go_wp2_with fail
        exact ⟨⟨i + 1, by omega, by go_num, R2.out, B.out⟩, by simp [intOf]; omega⟩
    · obtain rfl : i = 4 := by omega
      have cv := Slot.Row.str R.out (k := 0) (m := 512) (c := cap) (by omega) (by rw [mix_len]; omega) (by rw [mix_len]; exact HC.out)
      have eb : Slot.base g 0 cap = some ⟨g, 0, none⟩ := by unfold Slot.base; split <;> rfl
      rw [eb, List.drop_zero, List.take_of_length_le (by rw [mix_len]; omega)] at cv
      have cv2 : (convert 45 9 (.slice (some ⟨g, 0, none⟩) o.size cap)).run Try.prog wr = .ok (.string (Slot.strB (mix o.data.toList n.data.toList l 512))) wr := by
        rw [HO.out]; exact cv
      clear cv eb R
      simp only [show ((4 : Nat) : Int) = 4 from rfl]
      go_wp2_with fail
      rw [Exit.noGoto_ret]
      go_ret2
      exact ⟨rfl, by rw [← G.out]; exact B.out⟩

theorem torn_any (o n : ByteArray) {v : Value} {l : List Bool} {w : World} (ho : o.size ≤ 281474976710656) (hn : n.size ≤ 281474976710656) (h : Tru w v l) (hl : l.length ≤ 1000000) :
    Calls Try.prog 20 #[.string o, .string n, v] w fun e w' => e = .returned (.tuple #[.string (tornS o n l), .int .i64 (tornE o n)]) ∧ Below w.heap.size w w' := by
  by_cases hh : o.size = 512 ∧ n.size = 512
  · have e1 : tornS o n l = Slot.strB (mix o.data.toList n.data.toList l 512) := by unfold tornS; rw [if_pos hh]
    have e2 : tornE o n = 0 := by unfold tornE; rw [if_pos hh]
    rw [e1, e2]
    exact torn_yes o n hh.1 hh.2 h hl
  · have e1 : tornS o n l = ⟨#[]⟩ := by unfold tornS; rw [if_neg hh]
    have e2 : tornE o n = 2 := by unfold tornE; rw [if_neg hh]
    rw [e1, e2]
    refine (torn_no o n v w ho hn hh).mono ?_
    rintro e w' ⟨rfl, rfl⟩
    exact ⟨rfl, Below.refl _ _⟩

end Go.Proofs.Ytmandeohbiagfaa.Page

namespace Go.Proofs.Ytmandeohbiagfaa.Page
open Go.RowKit Go.ChangeShapes Go.WideShapes Go.Deep

section
variable {H : Type} {enc : TypeId × Value → H} {W : World}

theorem weights_all {P : Program} {e : TypeId} : ∀ {l : List (DataW H)} {d : DataW H}, d ∈ l → ∀ n ∈ d.weights P e, n ∈ DataW.weightsAll P e l
  | [], _, h, _, _ => by cases h
  | x :: r, d, h, n, hn => by
    simp only [DataW.weightsAll, List.mem_append]
    rcases List.mem_cons.1 h with rfl | h
    · exact .inl hn
    · exact .inr (weights_all h n hn)

theorem nat_of {n : Int} (h : 0 ≤ n) : ∃ m : Nat, n = (m : Int) := ⟨n.toNat, by omega⟩
theorem cells_one {cs : List Value} {j : Nat} {v : Value} (h : cs[j]? = some v) : (cs.drop j).take 1 = [v] := by
  obtain ⟨hj, e⟩ := List.getElem?_eq_some_iff.1 h
  rw [List.drop_eq_getElem_cons hj, e]
  rfl

/-- a slice without an address has no room -/
def NilOk (v : Value) : Prop := ∀ n c, v = .slice none n c → c = 0
set_option maxRecDepth 100000 in
/-- rows, as they come in -/
theorem rows_of {fuel : Nat} {v : Value} {y : DataW H × List MemPlace} (h : DataW.trod enc Try.prog W 0 (fun _ => true) true fuel 24 [v] = some y) (hz : ∀ n ∈ y.1.weights Try.prog 24, n ≤ 140737488351232) :
    ∃ l : List ByteArray, NilOk v ∧ Rows W v l ∧ l.length ≤ 140737488351232 ∧ ∀ j, j < l.length → (nth l j).size ≤ 140737488351232 := by
  rcases open_strings Try.underlying24 Try.underlying9 (by kernel_rfl) h with ⟨h1, _⟩ | ⟨a, len, cap, ss, h1, _, hl, hm, hx, hy, hc, _⟩
  · simp at h1
    subst h1
    exact ⟨[], (fun n c h => by cases h; rfl), Rows.nil W none 0, by simp, fun j hj => by simp at hj⟩
  · simp at h1
    subst h1
    simp only [if_true] at hx
    have hd : y.1 = .slice (strs (ss.take len)) (strs (ss.drop len)) := congrArg Prod.fst hy
    have hlen : (ss.take len).length = len := by rw [List.length_take]; omega
    have hn : ∀ j, j < len → nth (ss.take len) j = ss.getD j ByteArray.empty := fun j hj => by
      unfold nth
      rw [List.getD_eq_getElem?_getD, List.getD_eq_getElem?_getD, List.getElem?_take, if_pos hj]
    refine ⟨ss.take len, (fun n c h => by cases h), ?_, ?_, fun j hj => ?_⟩
    · by_cases h0 : len = 0
      · subst h0
        rw [List.take_zero]
        exact Rows.nil W _ _
      · have hcell := hc 0 (by omega)
        have hsp : a.spot = none := by
          obtain ⟨x, o, sp⟩ := a
          cases sp with
          | none => rfl
          | some s => simp [Addr.add, World.cell?] at hcell; split at hcell <;> simp at hcell
        obtain ⟨x, o, sp⟩ := a
        simp at hsp
        subst hsp
        have hadd : ∀ j, (⟨x, o, none⟩ : Addr).add j = ⟨x, o + j, none⟩ := fun j => by rw [Addr.add_mid]
        have hx0 : x < W.heap.size := by
          rw [hadd] at hcell
          exact block_lt_of_cell hcell
        refine ⟨some ⟨x, o, none⟩, cap, by rw [hlen], .inr ⟨x, o, rfl, hx0, fun j hj => ?_⟩⟩
        rw [hlen] at hj
        have := hc j (by omega)
        rw [hadd] at this
        rw [this, hn j hj]
    · rw [hlen]
      have := hz (((strs (ss.take len)).length + (strs (ss.drop len)).length) * Try.prog.bytesOf 9) (by
        rw [hd]
        simp only [DataW.weights, Try.underlying24]
        exact List.mem_cons_self ..)
      have hb : Try.prog.bytesOf 9 = 16 := by kernel_rfl
      rw [hb] at this
      have e : (strs (H := H) (ss.take len)).length = len := by unfold strs; rw [List.length_map, hlen]
      rw [e] at this
      omega
    · rw [hlen] at hj
      have hget : (ss.take len)[j]? = some (nth (ss.take len) j) := nth_get (by rw [hlen]; exact hj)
      refine hz _ ?_
      rw [hd]
      simp only [DataW.weights, Try.underlying24]
      refine List.mem_cons_of_mem _ (List.mem_append_left _ (weights_all (d := .lit (.string (nth (ss.take len) j).data.toList)) ?_ _ ?_))
      · unfold strs
        exact List.mem_map.2 ⟨nth (ss.take len) j, List.mem_of_getElem? hget, rfl⟩
      · simp [DataW.weights]

/-- a page that came in -/
structure InPg (W : World) (P : Pg) (u : Value) : Prop where
  wf : P.wf
  nil : NilOk u
  rows : Rows W u P.rows
  len : P.rows.length ≤ 140737488351232
  each : ∀ j, j < P.rows.length → (nth P.rows j).size ≤ 140737488351232

set_option maxRecDepth 100000 in
set_option maxHeartbeats 1000000 in
/-- a page, out of its cells -/
theorem page_of {B : Nat} {v : Value} {d : DataW H} {p : List MemPlace} (hv : Value.okWide Try.prog W .any B 26 v) (h : DataW.Trod enc Try.prog W 0 (fun _ => true) true 26 v d p)
    (hz : ∀ n ∈ d.weights Try.prog 26, n ≤ 140737488351232) : ∃ (P : Pg) (u : Value), v = pgV P u ∧ InPg W P u := by
  obtain ⟨cs, rfl, hcs⟩ := okWide_struct Try.underlying26 hv
  obtain ⟨fuel, hf0⟩ := h
  obtain ⟨ys, m, _, hy, _, hyl, hf⟩ := DataW.trod_struct Try.underlying26 hf0
  have hc6 : cs.size = 6 := hcs.trans (by kernel_rfl)
  obtain ⟨l, rfl⟩ : ∃ l : List Value, cs = l.toArray := ⟨cs.toList, by simp⟩
  have hl6 : l.length = 6 := by simpa using hc6
  match l, hl6 with
  | [v0, v1, v2, v3, v4, v5], _ =>
    match ys, hyl with
    | [y0, y1, y2, y3, y4, y5], _ =>
      have hone : ∀ (i : Nat) (f : Field), _ → _ := hone_of (P := Try.prog) (fs := #[{ name := "Kind", type := 5, offset := 0, embedded := false, tag := "", pkgPath := "", byteOffset := 0 }, { name := "Level", type := 5, offset := 1, embedded := false, tag := "", pkgPath := "", byteOffset := 1 }, { name := "Id", type := 22, offset := 2, embedded := false, tag := "", pkgPath := "", byteOffset := 4 }, { name := "LSN", type := 23, offset := 3, embedded := false, tag := "", pkgPath := "", byteOffset := 8 }, { name := "Next", type := 22, offset := 4, embedded := false, tag := "", pkgPath := "", byteOffset := 16 }, { name := "Rows", type := 24, offset := 5, embedded := false, tag := "", pkgPath := "", byteOffset := 24 }]) (by kernel_rfl)
      have g0 : DataW.trod enc Try.prog W 0 (fun _ => true) true m 5 [v0] = some y0 := by
        have h1 := hf 0 _ rfl
        rw [(hone 0 _ rfl).2] at h1
        exact h1
      have g1 : DataW.trod enc Try.prog W 0 (fun _ => true) true m 5 [v1] = some y1 := by
        have h1 := hf 1 _ rfl
        rw [(hone 1 _ rfl).2] at h1
        exact h1
      have g2 : DataW.trod enc Try.prog W 0 (fun _ => true) true m 22 [v2] = some y2 := by
        have h1 := hf 2 _ rfl
        rw [(hone 2 _ rfl).2] at h1
        exact h1
      have g3 : DataW.trod enc Try.prog W 0 (fun _ => true) true m 23 [v3] = some y3 := by
        have h1 := hf 3 _ rfl
        rw [(hone 3 _ rfl).2] at h1
        exact h1
      have g4 : DataW.trod enc Try.prog W 0 (fun _ => true) true m 22 [v4] = some y4 := by
        have h1 := hf 4 _ rfl
        rw [(hone 4 _ rfl).2] at h1
        exact h1
      have g5 : DataW.trod enc Try.prog W 0 (fun _ => true) true m 24 [v5] = some y5 := by
        have h1 := hf 5 _ rfl
        rw [(hone 5 _ rfl).2] at h1
        exact h1
      obtain ⟨n0, e0, _, w0⟩ := DataW.trod_int Try.underlying5 g0
      obtain ⟨n1, e1, _, w1⟩ := DataW.trod_int Try.underlying5 g1
      obtain ⟨n2, e2, _, w2⟩ := DataW.trod_int Try.underlying22 g2
      obtain ⟨n3, e3, _, w3⟩ := DataW.trod_int Try.underlying23 g3
      obtain ⟨n4, e4, _, w4⟩ := DataW.trod_int Try.underlying22 g4
      simp only [List.cons.injEq, and_true] at e0 e1 e2 e3 e4
      subst e0 e1 e2 e3 e4
      have hd : d = .agg [y0.1, y1.1, y2.1, y3.1, y4.1, y5.1] := by
        simp only [Prod.ext_iff] at hy
        rw [hy.1]; rfl
      have hw : ∀ n ∈ DataW.weightsEach Try.prog [5, 5, 22, 23, 22, 24] [y0.1, y1.1, y2.1, y3.1, y4.1, y5.1], n ≤ 140737488351232 := by
        intro n hn
        refine hz n ?_
        rw [hd]
        simp only [DataW.weights, Try.underlying26]
        exact hn
      obtain ⟨L, hnil, hr, hlen, heach⟩ := rows_of g5 fun n hn => hw n (DataW.weights_mem_each (j := 5) rfl rfl _ hn)
      have b0 := bounds_u8 w0
      have b1 := bounds_u8 w1
      have b2 := bounds_u32 w2
      have b3 := bounds_u64 w3
      have b4 := bounds_u32 w4
      obtain ⟨m0, rfl⟩ := nat_of b0.1
      obtain ⟨m1, rfl⟩ := nat_of b1.1
      obtain ⟨m2, rfl⟩ := nat_of b2.1
      obtain ⟨m3, rfl⟩ := nat_of b3.1
      obtain ⟨m4, rfl⟩ := nat_of b4.1
      refine ⟨⟨m0, m1, m2, m3, m4, L⟩, v5, rfl, ⟨⟨?_, ?_, ?_, ?_, ?_⟩, hnil, hr, hlen, heach⟩⟩
      · show m0 < 256; omega
      · show m1 < 256; omega
      · show m2 < 4294967296; omega
      · show m3 < 18446744073709551616; omega
      · show m4 < 4294967296; omega

set_option maxRecDepth 100000 in
/-- truths that come in -/
theorem bools_arg {B : Nat} {v : Value} {d : DataW H} {p : List MemPlace} (hv : Value.okWide Try.prog W .any B 36 v) (h : DataW.Trod enc Try.prog W 0 (fun _ => true) true 36 v d p)
    (hz : ∀ n ∈ d.weights Try.prog 36, n ≤ 140737488351232) : ∃ l : List Bool, NilOk v ∧ Tru W v l ∧ l.length ≤ 140737488351232 := by
  obtain ⟨a, len, cap, rfl⟩ := okWide_slice Try.underlying36 hv
  obtain ⟨fuel, hf⟩ := h
  rcases open_bools Try.underlying36 Try.underlying4 (by kernel_rfl) hf with ⟨h1, _⟩ | ⟨a', len', cap', Bf, h1, _, hl, hm, hx, hc⟩
  · simp [Value.cells] at h1
    obtain ⟨rfl, rfl, rfl⟩ := h1
    exact ⟨[], (fun n c h => by cases h; rfl), ⟨none, 0, rfl, .inl rfl⟩, by simp⟩
  · simp [Value.cells] at h1
    obtain ⟨rfl, rfl, rfl⟩ := h1
    have hgD : ∀ j, j < len → ((List.range len).map Bf).getD j false = Bf j := fun j hj => by
      rw [List.getD_eq_getElem?_getD, List.getElem?_map, List.getElem?_range hj]
      rfl
    refine ⟨(List.range len).map Bf, (fun n c h => by cases h), ?_, ?_⟩
    · by_cases h0 : len = 0
      · subst h0
        exact ⟨_, cap, rfl, .inl rfl⟩
      · have hcell := hc 0 (by omega)
        have hsp : a'.spot = none := by
          obtain ⟨x, o, sp⟩ := a'
          cases sp with
          | none => rfl
          | some s => simp [Addr.add, World.cell?] at hcell; split at hcell <;> simp at hcell
        obtain ⟨x, o, sp⟩ := a'
        simp at hsp
        subst hsp
        have hadd : ∀ j, (⟨x, o, none⟩ : Addr).add j = ⟨x, o + j, none⟩ := fun j => by rw [Addr.add_mid]
        have hx0 : x < W.heap.size := by
          rw [hadd] at hcell
          exact block_lt_of_cell hcell
        refine ⟨some ⟨x, o, none⟩, cap, by simp, .inr ⟨x, o, rfl, hx0, fun j hj => ?_⟩⟩
        have hj2 : j < len := by simpa using hj
        have := hc j (by omega)
        rw [hadd] at this
        rw [this, hgD j hj2]
    · have e1 : d = .slice ((List.range len).map fun i => .lit (.bool (Bf i))) ((List.range (cap - len)).map fun j => .lit (.bool (Bf (len + j)))) := congrArg Prod.fst hx
      have hb1 : Try.prog.bytesOf 4 = 1 := by kernel_rfl
      have := hz ((((List.range len).map fun i => (DataW.lit (Lit.bool (Bf i)) : DataW H)).length + ((List.range (cap - len)).map fun j => (DataW.lit (Lit.bool (Bf (len + j))) : DataW H)).length) * Try.prog.bytesOf 4) (by
        rw [e1]
        simp only [DataW.weights, Try.underlying36]
        exact List.mem_cons_self ..)
      rw [hb1] at this
      simp at this ⊢
      omega
end
end Go.Proofs.Ytmandeohbiagfaa.Page

namespace Go.Proofs.Ytmandeohbiagfaa.Page
open Go.RowKit
attribute [local go_sem ↓] Go.wp_at_zero Go.wp_at_succ

/-- what heavy reckons -/
def wt (l : List ByteArray) : Nat := (l.map fun r => 1 + r.size).sum
def heavyB (l : List ByteArray) : Bool := decide (4096 < wt l)
theorem wt_app (l m : List ByteArray) : wt (l ++ m) = wt l + wt m := by simp [wt]
theorem wt_take {l : List ByteArray} {k : Nat} (h : k < l.length) : wt (l.take (k + 1)) = wt (l.take k) + (1 + (nth l k).size) := by
  rw [nth_take h, wt_app]; simp [wt]
theorem wt_take_le (l : List ByteArray) (k : Nat) : wt (l.take k) ≤ wt l := by
  have h := wt_app (l.take k) (l.drop k)
  rw [List.take_append_drop] at h
  omega
theorem used_wt (l : List ByteArray) : used l ≤ 4 * wt l := by
  induction l with
  | nil => simp [used]
  | cons r l ih =>
    rw [used_cons]
    have : wt (r :: l) = 1 + r.size + wt l := by simp [wt]
    omega
theorem light {l : List ByteArray} (h : heavyB l = false) : used l ≤ 16384 ∧ l.length ≤ 4096 := by
  unfold heavyB at h
  have h1 := of_decide_eq_false h
  have h2 := used_wt l
  have h3 := used_len l
  omega

set_option maxRecDepth 100000 in
set_option maxHeartbeats 1000000 in
theorem heavy_any {w : World} {v : Value} (p : Pg) (h : Rows w v p.rows) (hl : p.rows.length ≤ 140737488351232) (hs : ∀ j, j < p.rows.length → (nth p.rows j).size ≤ 140737488351232) :
    Calls Try.prog 8 #[pgV p v] w fun e w' => e = .returned (.bool (heavyB p.rows)) ∧ Below w.heap.size w w' := by
  have hr := h.alloc (.cells (pgC p v) 26)
  have hc := pgC_cell w p v
  have hbl := (Below.refl w.heap.size w).alloc (Nat.le_refl _) (.cells (pgC p v) 26)
  obtain ⟨W, hW⟩ : ∃ W, W = w.alloc (.cells (pgC p v) 26) := ⟨_, rfl⟩
  rw [← hW] at hr hc hbl
  obtain ⟨ad, c, rfl, _⟩ := id h
  have B := Lib.hid hbl
  obtain ⟨l, hll⟩ : ∃ l, l = p.rows := ⟨_, rfl⟩
  rw [← hll] at hr hc hl hs hW
  have H := Lib.hid hr
  have S := Lib.hid hs
  obtain ⟨n, hn⟩ : ∃ n, n = l.length := ⟨_, rfl⟩
  have N := Lib.hid hn
  have hn2 : n ≤ 140737488351232 := by omega
  rw [← hll]
  rw [← hn] at hc ⊢ hW
  have HW := Lib.hid hW
  clear h hs hl hn hr hbl hll hW
  unfold pgV
  go_enter Try.func8, Try.ntmps8
  go_wp2_with fail
  change Code.wp _ _ _ _ (w.alloc (.cells (pgC p (.slice ad n c)) 26))
  rw [← HW.out]
  go_loop [3, 4] (fun x i => ∃ k m : Nat, k ≤ n ∧ m ≤ 140737488400000 ∧ m = wt (l.take k) ∧ x = .int .i64 m ∧ i = .int .i64 k) (fun _ i => n - (intOf i).toNat)
  case atStart => exact ⟨0, 0, by omega, by omega, by simp [wt], by go_num, by go_num⟩
  case round =>
    obtain ⟨k, m, hk, hm, hq, rfl, rfl⟩ := hrel
    by_cases hlt : k < n
    · by_cases hx : m ≤ 4096
      · have hlt2 : k < l.length := by rw [← N.out]; exact hlt
        obtain ⟨b, o, rfl, hb, hc2⟩ := H.out.at (k := k) hlt2
        have t1 := S.out k hlt2
        have t2 := wt_take hlt2
        obtain ⟨s, hs2⟩ : ∃ s, s = nth l k := ⟨_, rfl⟩
        rw [← hs2] at hc2 t1 t2
        have Z := Lib.hid (show m + 1 + s.size = wt (l.take (k + 1)) by omega)
        clear hq t2 hs2 hlt2
        go_wp2_with fail
        go_round
        case rel => exact ⟨k + 1, m + 1 + s.size, by omega, by omega, Z.out, by go_num, by go_num⟩
        case measure => simp [intOf]; omega
      · have e : heavyB l = true := by
          have := wt_take_le l k
          unfold heavyB; rw [decide_eq_true_iff]; omega
        have E := Lib.hid e
        clear hq e
        go_wp2_with fail
        go_ret
        exact ⟨by rw [E.out]; rfl, B.out⟩
    · obtain rfl : k = n := by omega
      have e : heavyB l = decide ((4096 : Int) < (m : Int)) := by
        have e1 : l.take k = l := List.take_of_length_le (by rw [← N.out]; omega)
        rw [e1] at hq
        unfold heavyB; rw [decide_eq_decide]; omega
      have E := Lib.hid e
      clear hq e
      go_wp2_with fail
      all_goals
        go_ret
        refine ⟨?_, B.out⟩
        rw [E.out]
        first | rfl | (congr 2; simp; omega)

end Go.Proofs.Ytmandeohbiagfaa.Page

namespace Go.Proofs.Ytmandeohbiagfaa.Page
open Go.RowKit Slot

set_option maxRecDepth 100000 in
/-- append of rows that came in -/
theorem run_app_in {W0 w : World} {v x : Value} {l news : List ByteArray} (ty : TypeId) (h : Tx W0 w v l) (hx : Rows w x news) (hnil : NilOk x) (hn : l.length + news.length ≤ 1000000) :
    ∃ v' w', (Builtin.append_ #[24, 24] ty #[v, x]).run Try.prog w = .ok v' w' ∧ Tx W0 w' v' (l ++ news) ∧ w.grownBy w' v.ownBlock := by
  obtain ⟨ad, c, rfl, hr⟩ := hx
  cases ad with
  | none =>
    have hc : c = 0 := hnil _ _ rfl
    subst hc
    rcases hr with rfl | ⟨b, o, ha, _⟩
    · exact run_app ty h (.inl ⟨rfl, rfl, rfl⟩) hn
    · cases ha
  | some a =>
    obtain ⟨i0, hi, hz0, hz1, hz2⟩ := info_parts Word.infoS
    have hcell : ∀ j u, (news.map Value.string)[j]? = some u → w.cell? (a.add j) = some u := fun j u hj => by
      rcases hr with rfl | ⟨b, o, ha, _, hc⟩
      · simp at hj
      · cases ha
        rw [List.getElem?_map] at hj
        obtain ⟨s, hs, rfl⟩ := Option.map_eq_some_iff.1 hj
        have hjl := (List.getElem?_eq_some_iff.1 hs).1
        rw [nth_get hjl] at hs
        cases hs
        rw [Addr.add_mid]
        exact hc j hjl
    obtain ⟨v', w', hr', h4, h5, _⟩ := run_append_own (P := Try.prog) w W0.heap.size 24 ty 9 i0 (.string ⟨#[]⟩) 1 16 Try.underlying24 hi hz0 hz1 hz2 rfl (by decide) v l.length _ h.own a news.length c (news.map Value.string) (by rw [List.length_map, Nat.mul_one]) hcell (str_one _) (by unfold maxLen; omega) (by omega) h.size
    refine ⟨v', w', hr', ⟨?_, Nat.le_trans h.size h5.size⟩, h5⟩
    rw [List.length_append, List.map_append]
    exact h4

section
variable {ops : Array Oper} {rest : List Oper} {o : Oper} {a : Act} {Q : Exit → Act → World → Prop} {K : Act → World → Prop} {E : Prop} {W0 w : World} {v x : Value} {l news : List ByteArray}
theorem wp_app_in (s d : Operand) (ho : o.op = .call { callee := .builtin .append, args := #[s, d], argTypes := #[24, 24] }) (h : Tx W0 w v l) (hx : Rows w x news) (hnil : NilOk x) (hn : l.length + news.length ≤ 1000000)
    (h1 : a.eval s = v) (h2 : a.eval d = x) {Q : Exit → Act → World → Prop} (hk : ∀ v' w', Tx W0 w' v' (l ++ news) → w.grownBy w' v.ownBlock → K (a.put o.dst v') w') : o.wp Try.prog a w K Q := by
  obtain ⟨v', w', hr, k1, k2⟩ := run_app_in (ty := o.type) h hx hnil hn
  unfold Oper.wp execOp
  simp only [ho, resolve, invoke, builtin, Sem.run_bind, Sem.run_pure, Result.andThen_ok, List.map_toArray, List.map_cons, List.map_nil, h1, h2, hr]
  exact hk v' w' k1 k2
theorem wpList_app_in (hgd : o.guard = none) (s d : Operand) (ho : o.op = .call { callee := .builtin .append, args := #[s, d], argTypes := #[24, 24] }) (h : Tx W0 w v l) (hx : Rows w x news) (hnil : NilOk x) (hn : l.length + news.length ≤ 1000000)
    (h1 : a.eval s = v) (h2 : a.eval d = x) (hk : ∀ v' w', Tx W0 w' v' (l ++ news) → w.grownBy w' v.ownBlock → wpList Try.prog ops Q rest (a.put o.dst v') w') : wpList Try.prog ops Q (o :: rest) a w :=
  wpList_plain hgd fun _ hK => wp_app_in s d ho h hx hnil hn h1 h2 fun v' w' k1 k2 => hK _ _ (hk v' w' k1 k2)
theorem step_app_in (hgd : o.guard = none) (s d : Operand) (ho : o.op = .call { callee := .builtin .append, args := #[s, d], argTypes := #[24, 24] }) (h : Tx W0 w v l) (hx : Rows w x news) (hnil : NilOk x) (hn : l.length + news.length ≤ 1000000)
    (h1 : a.eval s = v) (h2 : a.eval d = x) (hk : ∀ v' w', Tx W0 w' v' (l ++ news) → w.grownBy w' v.ownBlock → K (a.put o.dst v') w') : if Region.wanted o (yielded ops a.tmps) = true then Oper.wp Try.prog o a w K Q else E := by
  have hw : Region.wanted o (yielded ops a.tmps) = true := by simp [Region.wanted, hgd]
  rw [if_pos hw]
  exact wp_app_in s d ho h hx hnil hn h1 h2 hk
end

/-! ### truths -/
set_option maxRecDepth 100000 in
theorem infoT : (Try.prog.info? 4).map (fun i => (i.zero, i.size, i.bytes)) = some (some (.bool false), 1, 1) := by kernel_rfl
set_option maxRecDepth 100000 in
/-- a new slice of the truths that came in -/
theorem run_app_bools {W : World} {x : Value} {l : List Bool} (ty : TypeId) (hx : Tru W x l) (hnil : NilOk x) (hn : l.length ≤ 1000000) :
    ∃ v' w', (Builtin.append_ #[36, 36] ty #[.slice (some ⟨W.heap.size, 0, none⟩) 0 0, x]).run Try.prog (W.alloc (.cells #[] 4)) = .ok v' w' ∧ Tru w' v' l ∧ Below W.heap.size W w' := by
  have b0 := (Below.refl W.heap.size W).alloc (Nat.le_refl _) (.cells #[] 4)
  have hx1 := hx.later b0
  have own0 : (W.alloc (.cells #[] 4)).ownsRow W.heap.size 4 1 (.slice (some ⟨W.heap.size, 0, none⟩) 0 0) 0 [] := by
    have := World.ownsRow_lit (base := W.heap.size) (e := 4) (size := 1) W #[] 0 (Nat.le_refl _) (by unfold maxLen; omega) (by simp)
    simpa using this
  obtain ⟨ad, c, rfl, hr⟩ := hx1
  cases ad with
  | none =>
    have hc : c = 0 := hnil _ _ rfl
    subst hc
    rcases hr with rfl | ⟨b, o, ha, _⟩
    · obtain ⟨i0, hi, hz0, hz1, hz2⟩ := info_parts infoT
      exact ⟨_, _, run_append_owned_none (P := Try.prog) (w := W.alloc (.cells #[] 4)) W.heap.size 36 ty 4 i0 1 Try.underlying36 hi _ 0 _ own0, ⟨_, 0, rfl, .inl rfl⟩, b0⟩
    · cases ha
  | some a =>
    obtain ⟨i0, hi, hz0, hz1, hz2⟩ := info_parts infoT
    have hcell : ∀ j u, (l.map Value.bool)[j]? = some u → (W.alloc (.cells #[] 4)).cell? (a.add j) = some u := fun j u hj => by
      rcases hr with rfl | ⟨b, o, ha, _, hc⟩
      · simp at hj
      · cases ha
        rw [List.getElem?_map] at hj
        obtain ⟨s, hs, rfl⟩ := Option.map_eq_some_iff.1 hj
        obtain ⟨hjl, e⟩ := List.getElem?_eq_some_iff.1 hs
        rw [Addr.add_mid, hc j hjl, List.getD_eq_getElem?_getD, hs]
        rfl
    have hone : ∀ u ∈ l.map Value.bool, u.oneCell' = true := fun u hu => by
      obtain ⟨s, _, rfl⟩ := List.mem_map.1 hu
      rfl
    obtain ⟨v', w', hr', h4, h5, _⟩ := run_append_own (P := Try.prog) (W.alloc (.cells #[] 4)) W.heap.size 36 ty 4 i0 (.bool false) 1 1 Try.underlying36 hi hz0 hz1 hz2 rfl (by decide) _ 0 _ own0 a l.length c (l.map Value.bool) (by rw [List.length_map, Nat.mul_one]) hcell hone (by unfold maxLen; omega) (by omega) (by simp)
    refine ⟨v', w', hr', ?_, b0.grown h5 b0.size fun y hy => by simp [Value.ownBlock] at hy; omega⟩
    rw [Nat.zero_add, List.nil_append] at h4
    rcases h4.2 with ⟨h1, h2⟩ | ⟨g, cap, cur, h1, h2, h3, h4, h5, h6, h7⟩
    · subst h1
      have : l = [] := List.eq_nil_of_length_eq_zero h2
      subst this
      exact ⟨none, 0, rfl, .inl rfl⟩
    · rw [Nat.mul_one] at h7
      refine ⟨some ⟨g, 0, none⟩, cap, h1, .inr ⟨g, 0, rfl, (Array.getElem?_eq_some_iff.1 h3).1, fun j hj => ?_⟩⟩
      have e : (cur.toList.take l.length)[j]? = (l.map Value.bool)[j]? := by rw [h7]
      rw [List.getElem?_take, if_pos hj, List.getElem?_map, List.getElem?_eq_getElem hj] at e
      rw [cell_of_row w' g _ cur _ _ h3, Nat.zero_add, ← Array.getElem?_toList, e, List.getD_eq_getElem?_getD, List.getElem?_eq_getElem hj]
      rfl

section
variable {ops : Array Oper} {rest : List Oper} {o : Oper} {a : Act} {Q : Exit → Act → World → Prop} {K : Act → World → Prop} {E : Prop} {W : World} {x : Value} {l : List Bool}
theorem wp_app_bools (s d : Operand) (ho : o.op = .call { callee := .builtin .append, args := #[s, d], argTypes := #[36, 36] }) (hx : Tru W x l) (hnil : NilOk x) (hn : l.length ≤ 1000000)
    (h1 : a.eval s = .slice (some ⟨W.heap.size, 0, none⟩) 0 0) (h2 : a.eval d = x) {Q : Exit → Act → World → Prop} (hk : ∀ v' w', Tru w' v' l → Below W.heap.size W w' → K (a.put o.dst v') w') : o.wp Try.prog a (W.alloc (.cells #[] 4)) K Q := by
  obtain ⟨v', w', hr, k1, k2⟩ := run_app_bools (ty := o.type) hx hnil hn
  unfold Oper.wp execOp
  simp only [ho, resolve, invoke, builtin, Sem.run_bind, Sem.run_pure, Result.andThen_ok, List.map_toArray, List.map_cons, List.map_nil, h1, h2, hr]
  exact hk v' w' k1 k2
theorem wpList_app_bools (hgd : o.guard = none) (s d : Operand) (ho : o.op = .call { callee := .builtin .append, args := #[s, d], argTypes := #[36, 36] }) (hx : Tru W x l) (hnil : NilOk x) (hn : l.length ≤ 1000000)
    (h1 : a.eval s = .slice (some ⟨W.heap.size, 0, none⟩) 0 0) (h2 : a.eval d = x) (hk : ∀ v' w', Tru w' v' l → Below W.heap.size W w' → wpList Try.prog ops Q rest (a.put o.dst v') w') : wpList Try.prog ops Q (o :: rest) a (W.alloc (.cells #[] 4)) :=
  wpList_plain hgd fun _ hK => wp_app_bools s d ho hx hnil hn h1 h2 fun v' w' k1 k2 => hK _ _ (hk v' w' k1 k2)
end

end Go.Proofs.Ytmandeohbiagfaa.Page

namespace Go.Proofs.Ytmandeohbiagfaa.Slot
open Go.RowKit

theorem numAt_L (s : ByteArray) (k : Nat) (h : k + 2 ≤ s.size) : numAt s k 2 = numL s.data.toList k := by
  have hl : ((s.data.toList.drop k).take 2).length = 2 := by
    rw [List.length_take, List.length_drop]
    show min 2 (s.size - k) = 2
    omega
  have h1 := numAt_two _ hl
  have h2 : numAt (strB ((s.data.toList.drop k).take 2)) 0 2 = numAt s k 2 := by
    unfold numAt
    show num ((((s.data.toList.drop k).take 2).drop 0).take 2) = _
    rw [List.drop_zero, List.take_of_length_le (by rw [hl]; exact Nat.le_refl _)]
  rw [num_part (by omega), Nat.add_zero, h2] at h1
  exact h1
theorem rget_L (s : ByteArray) (k : Nat) (w : World) (hs : s.size ≤ 281474976710656) (h : k + 2 ≤ s.size) :
    Calls Try.prog 36 #[.string s, .int .i64 (k : Int), .int .i64 2] w fun e w' => e = .returned (.tuple #[.int .u64 (numL s.data.toList k : Int), .bool true]) ∧ w = w' := by
  have := rget_yes s k 2 w hs (by omega) (by omega) h
  rw [numAt_L s k h] at this
  exact this

/-! ### a row of n truths -/
def rowM (n : Nat) (f : Nat → Bool) : Array Value := ((List.range n).map fun j => Value.bool (f j)).toArray
theorem rowM_size (n : Nat) (f : Nat → Bool) : (rowM n f).size = n := by
  unfold rowM
  rw [List.size_toArray, List.length_map, List.length_range]
theorem rowM_get {n : Nat} (f : Nat → Bool) {j : Nat} (h : j < n) : (rowM n f)[j]? = some (.bool (f j)) := by
  unfold rowM
  rw [List.getElem?_toArray, List.getElem?_map, List.getElem?_range h]
  rfl
theorem rowM_ext {n : Nat} {f g : Nat → Bool} (h : ∀ j, j < n → f j = g j) : rowM n f = rowM n g := by
  have e : (List.range n).map (fun j => Value.bool (f j)) = (List.range n).map (fun j => Value.bool (g j)) := List.map_congr_left fun j hj => by rw [h j (List.mem_range.1 hj)]
  unfold rowM
  rw [e]
theorem rowM_set (n : Nat) (f : Nat → Bool) (i : Nat) : (rowM n f).setIfInBounds i (.bool true) = rowM n (fun j => if j = i then true else f j) := by
  apply Array.ext_getElem?
  intro j
  rw [Array.getElem?_setIfInBounds]
  by_cases hj : j < n
  · rw [rowM_get _ hj, rowM_get _ hj, rowM_size]
    by_cases e : i = j
    · subst e; rw [if_pos rfl, if_pos hj, if_pos rfl]
    · rw [if_neg e, if_neg (fun h => e h.symm)]
  · have h1 : (rowM n f)[j]? = none := by rw [Array.getElem?_eq_none]; rw [rowM_size]; omega
    have h2 : (rowM n (fun j => if j = i then true else f j))[j]? = none := by rw [Array.getElem?_eq_none]; rw [rowM_size]; omega
    rw [h1, h2, rowM_size]
    by_cases e : i = j
    · rw [if_pos e, if_neg (by omega)]
    · rw [if_neg e]
theorem rowM_made (n : Nat) : madeCells (Value.bool false).cells n = rowM n fun _ => false := by
  apply Array.ext_getElem?
  intro j
  by_cases hj : j < n
  · rw [rowM_get _ hj]
    unfold madeCells
    simp [Value.cells, hj, Nat.mod_one]
  · have h1 : (rowM n fun _ => false)[j]? = none := by rw [Array.getElem?_eq_none]; rw [rowM_size]; omega
    rw [h1, Array.getElem?_eq_none]
    rw [size_madeCells]
    omega
set_option maxRecDepth 100000 in
theorem Word.infoT : (Try.prog.info? 4).map (fun i => (i.zero, i.size, i.bytes)) = some (some (.bool false), 1, 1) := by kernel_rfl
set_option maxRecDepth 100000 in
theorem marks_make (W : World) (m : Nat) (hm : m ≤ 1000000) : (Instr.makeSlice 36 (.int .i64 (m : Int)) (.int .i64 (m : Int))).run Try.prog W = .ok (.slice (some ⟨W.heap.size, 0, none⟩) m m) (W.alloc (.cells (rowM m fun _ => false) 4)) := by
  obtain ⟨i0, hi, hz0, hz1, hz2⟩ := info_parts Word.infoT
  have h := run_make (P := Try.prog) W 36 4 i0 (.bool false) Try.underlying36 hi hz0 .i64 .i64 (m : Int) (m : Int) (by omega) (by omega) (by rw [hz2]; omega) (by omega)
  rw [← rowM_made]
  simpa [hz1] using h

/-! ### an area that is being loaded -/
structure LP (w wr : World) (q h t cB m : Nat) (v : Value) (a : A) (f : Nat → Bool) : Prop where
  lay : RLay wr q h cB v a
  own : ∀ b, v.ownBlock = some b → w.heap.size ≤ b
  mks : wr.heap[t]? = some (.cells (rowM m f) 4 (0, 0))
  below : Below w.heap.size w wr
  nq : w.heap.size ≤ q
  nh : w.heap.size ≤ h
  nt : w.heap.size ≤ t
section
variable {w wr : World} {q h t cB m : Nat} {v : Value} {a : A} {f : Nat → Bool}
theorem LP.ltq (L : LP w wr q h t cB m v a f) : q < wr.heap.size := (Array.getElem?_eq_some_iff.1 L.lay.head).1
theorem LP.ltt (L : LP w wr q h t cB m v a f) : t < wr.heap.size := (Array.getElem?_eq_some_iff.1 L.mks).1
theorem LP.tq (L : LP w wr q h t cB m v a f) : t ≠ q := by
  rintro rfl
  have := L.lay.head.symm.trans L.mks
  simp at this
theorem LP.th (L : LP w wr q h t cB m v a f) : t ≠ h := by
  rintro rfl
  obtain ⟨cur, _, h1, _⟩ := L.lay.row
  have := h1.symm.trans L.mks
  simp at this
theorem LP.tv (L : LP w wr q h t cB m v a f) {b : Nat} (hb : v.ownBlock = some b) : b ≠ t := by
  rcases L.lay.dl.form with ⟨rfl, _⟩ | ⟨g, cap, cur, rfl, h2, _⟩
  · simp [Value.ownBlock] at hb
  · simp [Value.ownBlock] at hb
    subst hb
    rintro rfl
    have := L.mks.symm.trans h2
    simp at this
theorem LP.later {w' : World} (L : LP w wr q h t cB m v a f) (b : Below wr.heap.size wr w') : LP w w' q h t cB m v a f :=
  ⟨⟨(b.block q L.ltq).trans L.lay.head, L.lay.row.far (b.block h L.lay.row.lt), L.lay.cap, L.lay.dl.later b⟩, L.own, (b.block t L.ltt).trans L.mks, L.below.trans (b.mono L.below.size), L.nq, L.nh, L.nt⟩
theorem LP.congr {f' : Nat → Bool} (L : LP w wr q h t cB m v a f) (e : ∀ j, j < m → f j = f' j) : LP w wr q h t cB m v a f' :=
  ⟨L.lay, L.own, by rw [← rowM_ext e]; exact L.mks, L.below, L.nq, L.nh, L.nt⟩
theorem LP.cell (L : LP w wr q h t cB m v a f) {j : Nat} (hj : j < m) : wr.cell? ⟨t, j, none⟩ = some (.bool (f j)) := by
  rw [cell_of_row wr t j _ _ _ L.mks, rowM_get _ hj]
theorem LP.free (L : LP w wr q h t cB m v a f) (j : Nat) : wr.frozen? ⟨t, j, none⟩ = false := frozen_of_row wr t j _ _ L.mks
theorem LP.mark (L : LP w wr q h t cB m v a f) (i : Nat) : LP w (wr.setCell ⟨t, i, none⟩ (.bool true)) q h t cB m v a (fun j => if j = i then true else f j) := by
  refine ⟨⟨?_, ?_, L.lay.cap, ?_⟩, L.own, ?_, L.below.setCell L.nt _, L.nq, L.nh, L.nt⟩
  · rw [heap_setCell_other _ _ _ _ (by exact fun e => L.tq e.symm)]
    exact L.lay.head
  · exact L.lay.row.far (heap_setCell_other _ _ _ _ (by exact fun e => L.th e.symm))
  · exact ownsRow_far L.lay.dl fun b hb => heap_setCell_other _ _ _ _ (by exact L.tv hb)
  · rw [heap_setCell_same wr t i _ _ _ L.mks, rowM_set]
theorem LP.app {wa w4 : World} {v4 : Value} {l : List (Nat × Nat)} (L : LP w wa q h t cB m v a f) (g4 : wa.grownBy w4 v.ownBlock) (t4 : Dl w4 v4 l) (b4 : ∀ b, v4.ownBlock = some b → w.heap.size ≤ b) :
    LP w (w4.setCell ⟨q, 2, none⟩ v4) q h t cB m v4 ⟨a.cells, a.low, l⟩ f := by
  have hq : w4.heap[q]? = wa.heap[q]? := g4.block q L.ltq fun e => (L.lay.ne1 e.symm).1 rfl
  have hh : w4.heap[h]? = wa.heap[h]? := g4.block h L.lay.row.lt fun e => (L.lay.ne1 e.symm).2 rfl
  have ht : w4.heap[t]? = wa.heap[t]? := g4.block t L.ltt fun e => L.tv e.symm rfl
  have head4 := hq.trans L.lay.head
  have hn : ∀ b, v4.ownBlock = some b → b ≠ q := by
    intro b hb
    rcases t4.form with ⟨rfl, _⟩ | ⟨g, cap, cur, rfl, h2, _⟩
    · simp [Value.ownBlock] at hb
    · simp [Value.ownBlock] at hb
      subst hb
      rintro rfl
      have := head4.symm.trans h2
      simp at this
  refine ⟨⟨?_, ?_, L.lay.cap, ?_⟩, b4, ?_, (L.below.grown g4 L.below.size L.own).setCell L.nq _, L.nq, L.nh, L.nt⟩
  · rw [heap_setCell_same w4 q 2 _ _ _ head4]; rfl
  · exact (L.lay.row.far hh).far (heap_setCell_other _ _ _ _ (by exact fun e => L.lay.ne e.symm))
  · exact ownsRow_far t4 fun b hb => heap_setCell_other _ _ _ _ (by exact hn b hb)
  · rw [heap_setCell_other _ _ _ _ (by exact L.tq)]
    exact ht.trans L.mks
theorem LP.fin (L : LP w wr q h t cB m v a f) : Rf wr q a (fun b => w.heap.size ≤ b ∧ b < wr.heap.size) :=
  ⟨⟨h, cB, v, L.lay, ⟨L.nq, L.ltq⟩, ⟨L.nh, L.lay.row.lt⟩, fun b hb => ⟨L.own b hb, (L.lay.dl.lt b hb).2⟩⟩, fun _ hb => hb.2⟩
theorem LP.start {w W1 : World} {s : List UInt8} {cap lo : Nat} (hr : Row W1 w.heap.size s) (hc : s.length ≤ cap) (hb : Below w.heap.size w W1) (hs : W1.heap.size = w.heap.size + 1) (m : Nat) :
    LP w ((W1.alloc (.cells #[.slice (some ⟨w.heap.size, 0, none⟩) s.length cap, .int .i64 (lo : Int), .slice none 0 0] 70)).alloc (.cells (rowM m fun _ => false) 4)) (w.heap.size + 1) w.heap.size (w.heap.size + 2) cap m (.slice none 0 0) ⟨s, lo, []⟩ (fun _ => false) := by
  obtain ⟨W2, hW2⟩ : ∃ W2, W2 = W1.alloc (.cells #[.slice (some ⟨w.heap.size, 0, none⟩) s.length cap, .int .i64 (lo : Int), .slice none 0 0] 70) := ⟨_, rfl⟩
  have h2 : W2.heap.size = w.heap.size + 2 := by rw [hW2]; simp; omega
  have b2 : Below w.heap.size w W2 := by rw [hW2]; exact hb.alloc hb.size _
  have bb : Below W2.heap.size W2 (W2.alloc (.cells (rowM m fun _ => false) 4)) := (Below.refl _ _).alloc (Nat.le_refl _) _
  have hq : W2.heap[w.heap.size + 1]? = some (.cells #[.slice (some ⟨w.heap.size, 0, none⟩) s.length cap, .int .i64 (lo : Int), .slice none 0 0] 70 (0, 0)) := by
    rw [hW2, ← hs]; exact heap_alloc_new _ _
  have hrow : Row W2 w.heap.size s := by rw [hW2]; exact hr.far (Below.heap_alloc _ _ _ hr.lt)
  rw [← hW2]
  refine ⟨⟨?_, ?_, hc, ?_⟩, ?_, ?_, b2.trans (bb.mono b2.size), by omega, by omega, by omega⟩
  · rw [bb.block _ (by omega)]
    exact hq
  · exact hrow.far (bb.block _ (by omega))
  · exact World.ownsRow_nil _ _ _ _
  · simp [Value.ownBlock]
  · rw [← h2]; exact heap_alloc_new _ _
end

end Go.Proofs.Ytmandeohbiagfaa.Slot
