/- Walks: the document's Compact. -/
import Derived.Test.YtehfclgngkhcpaaRQ
namespace Go.Proofs.Ytehfclgngkhcpaa.Slot
open Go.RowKit
attribute [local go_sem ↓] Go.wp_at_zero Go.wp_at_succ

section
variable {w : World} {q : Nat} {a : A} {F : Nat → Prop}
theorem strB_one (t : List UInt8) : (strB t).data.toList = t := rfl
/-- one directory entry, stored -/
theorem Rf.dirAt (H : Rf w q a F) {ad : Option Addr} {cap : Nat} (h2 : w.cell? ⟨q, 2, none⟩ = some (.slice ad a.dir.length cap)) {k : Nat} (hk : k < a.dir.length) (x : Nat × Nat) :
    ∃ g, ad = some ⟨g, 0, none⟩ ∧ w.cell? ⟨g, k * 2, none⟩ = some (.int .i64 ((a.at k).1 : Int)) ∧ w.cell? ⟨g, k * 2 + 1, none⟩ = some (.int .i64 ((a.at k).2 : Int)) ∧ w.frozen? ⟨g, k * 2, none⟩ = false ∧ w.frozen? ⟨g, k * 2 + 1, none⟩ = false ∧ F g ∧ g ≠ q ∧
      Rf ((w.setCell ⟨g, k * 2, none⟩ (.int .i64 (x.1 : Int))).setCell ⟨g, k * 2 + 1, none⟩ (.int .i64 (x.2 : Int))) q ⟨a.cells, a.low, a.dir.set k x⟩ F ∧ Touch F w ((w.setCell ⟨g, k * 2, none⟩ (.int .i64 (x.1 : Int))).setCell ⟨g, k * 2 + 1, none⟩ (.int .i64 (x.2 : Int))) := by
  obtain ⟨g, rfl, hR, hT⟩ := H.setDir h2 hk x
  obtain ⟨h, cB, v, L, f1, f2, f3⟩ := H.lay
  have h3 := L.cell2
  rw [h2] at h3
  simp only [Option.some.injEq] at h3
  subst h3
  obtain ⟨g', e, d1, d2, d3, d4⟩ := L.dl.at hk
  simp only [Option.some.injEq, Addr.mk.injEq, and_true] at e
  subst e
  exact ⟨g, rfl, d1, d2, d3, d4, f3 g rfl, (L.ne1 (b := g) rfl).1, hR, hT⟩

/-- Compact's state: the first k texts are moved -/
structure QC (w0 : World) (q : Nat) (F : Nat → Prop) (a : A) (k : Nat) (v : Value) (L : List ByteArray) (w : World) : Prop where
  rf : Rf w q (a.mid k) F
  tch : Touch F w0 w
  tx : Tx w0 w v L
theorem Tx.touchF {W0 w w' : World} {v : Value} {l : List ByteArray} {F : Nat → Prop} (h : Tx W0 w v l) (t : Touch F w w') (hF : ∀ b, F b → b < W0.heap.size) : Tx W0 w' v l :=
  h.far t.size fun x hx => t.block x (h.lt x hx) fun hf => by have := (h.own.lt x hx).1; have := hF x hf; omega

set_option maxRecDepth 100000 in
set_option maxHeartbeats 8000000 in
theorem qcompact_any (hk : a.ok) (H : Rf w q a F) : Calls Try.prog 70 #[.pointer (some ⟨q, 0, none⟩)] w fun e w' => e = .returned (.int .i64 ((a.compact.gap : Int) - (a.gap : Int))) ∧ (Rf w' q a.compact F ∧ Touch F w w') := by
  have hn40 := hk.hi
  have hlow := hk.low
  have hfin := hk.fin
  have hd : a.dir.length ≤ 2000 := by unfold A.fin at hfin; omega
  have gp := qgap_any H (by omega) (by omega)
  have eg : (a.low : Int) - (a.fin : Int) = (a.gap : Int) := by unfold A.gap; omega
  rw [eg] at gp
  have GP := Lib.hid gp
  have hFlt := Lib.hid H.below
  have HH := Lib.hid H
  have HK := Lib.hid hk
  obtain ⟨n, hn⟩ : ∃ n, n = a.dir.length := ⟨_, rfl⟩
  have HN := Lib.hid hn
  have n1 : (n : Int) ≤ 2000 := by omega
  have n0 : (0 : Int) ≤ (n : Int) := Int.natCast_nonneg _
  have hn2 : n ≤ 2000 := by omega
  clear gp H hk eg hn hd
  go_enter Try.func70, Try.ntmps70
  go_wp2_with fail
  refine GP.out.mono ?_
  rintro e w1 ⟨rfl, b1⟩
  have H1 := Lib.hid (HH.out.later b1)
  have B1 := Lib.hid b1
  have TX0 := Lib.hid (Tx.nil w b1.size)
  clear b1 GP
  go_wp2_with fail
  go_loopw [4, 5] (fun v i wr => ∃ (k : Nat) (L : List ByteArray), k ≤ n ∧ i = .int .i64 k ∧ L.length = k ∧ (∀ j, j < k → (L.getD j ⟨#[]⟩) = strB (a.text j)) ∧ Tx w wr v L ∧ Below w.heap.size w wr) (fun _ i _ => n - (intOf i).toNat)
  case atStart => exact ⟨0, [], by omega, by go_num, rfl, fun j hj => by omega, TX0.out, B1.out⟩
  case round =>
    obtain ⟨k, L, hk, rfl, hL, hLt, htx, hb⟩ := hrel
    have Hr := HH.out.later hb
    obtain ⟨ad, cap, c2⟩ := Hr.len_cell
    rw [← HN.out] at c2
    clear TX0 B1 H1
    by_cases hlt : k < n
    · have he := HK.out.each k (by rw [← HN.out]; exact hlt)
      have tx := qtext_any Hr (k := k) (by rw [← HN.out]; exact hlt) (by rw [← HN.out]; omega) he.2 (by omega)
      have QT := Lib.hid tx
      have HTX := Lib.hid htx
      have HB := Lib.hid hb
      have HLT := Lib.hid hLt
      have HL := Lib.hid hL
      clear tx Hr htx hb hLt he hL
      generalize hS : strB (a.text k) = S at *
      have HS := Lib.hid hS
      clear hS
      go_wp2_with fail
      refine QT.out.mono ?_
      rintro e w2 ⟨rfl, b2⟩
      have TX2 := Lib.hid (HTX.out.later b2)
      have B2 := Lib.hid (HB.out.trans (b2.mono HB.out.size))
      have TM := Lib.hid (Tx.made w (w := w2) [S] B2.out.size (by simp))
      have BA := Lib.hid (show Below w2.heap.size w2 (w2.alloc (.cells #[.string S] 9)) from (Below.refl _ _).alloc (Nat.le_refl _) _)
      have HL1 := Lib.hid (show L.length + [S].length ≤ 1000000 by rw [HL.out]; simp; omega)
      have SA := Lib.hid (show SrcOf (w2.alloc (.cells #[.string S] 9)) (.slice (some ⟨w2.heap.size, 0, none⟩) 1 1) [S].length ([S].map Value.string) from TM.out.all)
      clear b2 QT HTX
      go_wp2_with (first | (refine wpList_app (W0 := w) (news := [S]) rfl _ _ rfl (TX2.out.later BA.out) SA.out HL1.out rfl rfl ?_; intro v3 w3 t3 g3))
      have B3 := Lib.hid ((B2.out.alloc B2.out.size (.cells #[.string S] 9)).grown g3 (by have := B2.out.size; simp; omega) (fun x hx => (TX2.out.own.lt x hx).1))
      have T3 := Lib.hid t3
      clear t3 g3
      go_wp2_with fail
      go_roundw
      case rel =>
        refine ⟨k + 1, L ++ [S], by omega, by go_num, by rw [List.length_append, HL.out]; rfl, fun j hj => ?_, T3.out, B3.out⟩
        rw [List.getD_eq_getElem?_getD]
        by_cases e : j < k
        · rw [List.getElem?_append_left (by rw [HL.out]; exact e), ← List.getD_eq_getElem?_getD]
          exact HLT.out j e
        · obtain rfl : j = k := by omega
          rw [List.getElem?_append_right (by rw [HL.out]; exact Nat.le_refl _), HL.out, Nat.sub_self, HS.out]
          rfl
      case measure => simp [intOf]; omega
    · obtain rfl : k = n := by omega
      obtain ⟨h, cB, c0⟩ := Hr.cell0
      have SL := Hr.setLow a.n
      have c1 : wr.cell? ⟨q, 1, none⟩ = some (.int .i64 (a.low : Int)) := by obtain ⟨_, _, _, L', _⟩ := Hr.lay; exact L'.cell1
      have fz : wr.frozen? ⟨q, 1, none⟩ = false := by obtain ⟨_, _, _, L', _⟩ := Hr.lay; exact L'.free 1
      have HR2 := Lib.hid SL.1
      have HT2 := Lib.hid ((Touch.ofNew hb : Touch F w wr).trans' SL.2)
      have HTX2 := Lib.hid (htx.touchF SL.2 hFlt.out)
      have HL := Lib.hid hL
      have HLT := Lib.hid hLt
      clear SL Hr htx hb hL hLt
      go_wp2_with fail
      generalize wr.setCell ⟨q, 1, none⟩ (.int .i64 (a.n : Int)) = W2 at *
      clear c0 c1 c2 fz
      obtain ⟨wo, ewo⟩ : ∃ wo : World, wo = wr := ⟨_, rfl⟩
      clear ewo
      obtain ⟨adt, cpt, hv4⟩ := HTX2.out.shape
      subst hv4
      go_loopw [6] (fun i wr => ∃ j : Nat, j ≤ k ∧ i = .int .i64 j ∧ Rf wr q (a.mid j) F ∧ Touch F w wr ∧ Tx w wr (.slice adt L.length cpt) L) (fun i _ => k - (intOf i).toNat)
      case atStart => exact ⟨0, by omega, by go_num, HR2.out, HT2.out, HTX2.out⟩
      case round =>
        obtain ⟨j, hj, rfl, hR, hT, htx⟩ := hrel
        clear HR2 HT2 HTX2
        obtain ⟨m1, m2, m3, m4, m5, m6⟩ := mid_all HK.out j (by rw [← HN.out]; exact hj)
        obtain ⟨ad, cap, c2⟩ := hR.len_cell
        rw [m2, ← HN.out] at c2
        by_cases hlt : j < k
        · have hja : j < a.dir.length := by rw [← HN.out]; exact hlt
          have tl := text_len HK.out hja
          have tk : tot (a.dir.take (j + 1)) = tot (a.dir.take j) + (a.at j).2 := tot_take hja
          have tle := tot_take_le a.dir (j + 1)
          have hr := HK.out.room
          have qb := qbelow_any hR (strB (a.text j)) (by rw [strB_size]; omega) (by omega) (by omega)
          rw [strB_size, strB_one] at qb
          obtain ⟨y, rfl, cy⟩ := htx.at (k := j) (by rw [HL.out]; exact hlt)
          rw [HLT.out j hlt] at cy
          have QB := Lib.hid qb
          have HTX := Lib.hid htx
          have HT := Lib.hid hT
          obtain ⟨z1, hz1⟩ : ∃ z1, z1 = (a.mid j).low - (a.text j).length := ⟨_, rfl⟩
          obtain ⟨z2, hz2⟩ : ∃ z2, z2 = (a.text j).length := ⟨_, rfl⟩
          rw [← hz1, ← hz2] at QB
          have hmid : a.mid (j + 1) = ⟨(a.mid j).lay (a.text j), z1, (a.mid j).dir.set j (z1, z2)⟩ := by rw [hz1, hz2]; rfl
          have HM := Lib.hid hmid
          have HM2 := Lib.hid m2
          have HLn := Lib.hid (show L.length = k from HL.out)
          clear qb htx hT m1 m2 m3 m4 m5 m6 tl tk tle hr hR hmid hz1 hz2
          generalize strB (a.text j) = S at *
          have j0 : (0 : Int) ≤ (j : Int) := Int.natCast_nonneg _
          have j1 : (j : Int) < (L.length : Int) := by have := HLn.out; omega
          have j2 : (j : Int) < (k : Int) := by omega
          go_wp2_with fail
          refine QB.out.mono ?_
          rintro e w5 ⟨rfl, hR5, hT5⟩
          have ba : Below w5.heap.size w5 (w5.alloc (.cells #[.int .i64 (z1 : Int), .int .i64 (z2 : Int)] 110)) := (Below.refl _ _).alloc (Nat.le_refl _) _
          obtain ⟨W6, hW6⟩ : ∃ W6, W6 = w5.alloc (.cells #[.int .i64 (z1 : Int), .int .i64 (z2 : Int)] 110) := ⟨_, rfl⟩
          have rn : W6.heap[w5.heap.size]? = some (.cells #[.int .i64 (z1 : Int), .int .i64 (z2 : Int)] 110 (0, 0)) := by rw [hW6]; exact heap_alloc_new _ _
          rw [← hW6] at ba
          have hR6 := hR5.later ba
          obtain ⟨ad6, cap6, c26⟩ := hR6.len_cell
          obtain ⟨gd, rfl, d1, d2, d3, d4, dF, dq, dR, dT⟩ := hR6.drew'.dirAt (ad := ad6) (cap := cap6) c26 (k := j) (by show j < (a.mid j).dir.length; rw [HM2.out]; exact hja) (z1, z2)
          have g0 : W6.cell? ⟨w5.heap.size, 0, none⟩ = some (.int .i64 (z1 : Int)) := by rw [cell_of_row _ _ _ _ _ _ rn]; rfl
          have g1 : W6.cell? ⟨w5.heap.size, 1, none⟩ = some (.int .i64 (z2 : Int)) := by rw [cell_of_row _ _ _ _ _ _ rn]; rfl
          have T6 := Lib.hid ((HT.out.trans' hT5).trans' (Touch.ofNew ba))
          have DR := Lib.hid (show Rf _ q (a.mid (j + 1)) F by rw [HM.out]; exact dR)
          have DT := Lib.hid dT
          have TX6 := Lib.hid (((HTX.out.touchF hT5 hFlt.out).later ba).later ((Below.refl _ _).drew))
          have c26' : W6.cell? ⟨q, 2, none⟩ = some (.slice (some ⟨gd, 0, none⟩) k cap6) := by
            rw [c26]
            show some (Value.slice _ (a.mid j).dir.length _) = _
            rw [HM2.out, ← HN.out]
          have d1' : W6.cell? ⟨gd, j * 2, none⟩ = _ := d1
          have d2' : W6.cell? ⟨gd, j * 2 + 1, none⟩ = _ := d2
          have d3' : W6.frozen? ⟨gd, j * 2, none⟩ = false := d3
          have d4' : W6.frozen? ⟨gd, j * 2 + 1, none⟩ = false := d4
          have HW6 := Lib.hid hW6
          clear hR5 hT5 ba hR6 c26 rn d1 d2 d3 d4 dR dT hW6 QB HTX HT c2 cy
          go_wp2_with (rw [← HW6.out])
          clear HW6
          (refine wp_region_still_tail 7 (by kernel_rfl) (by kernel_rfl) (still_of_quiet _ _ ?_); simp only [List.take_succ_cons, List.take_zero, List.drop_succ_cons, List.drop_zero]; (repeat (first | go_big_quiet_skip | (go_big_quiet_want; go_big_quiet_op; first | go_big_quiet_on | (apply Exists.intro; refine ⟨?_, ?_⟩; (first | fail); go_big_quiet_on)))); refine wpQuiet_nil ?_)
          go_wp2_with fail
          go_roundw
          case rel => exact ⟨j + 1, by omega, by go_num, DR.out, T6.out.drew.trans' DT.out, TX6.out.touchF DT.out hFlt.out⟩
          case measure => simp [intOf]; omega
        · obtain rfl : j = k := by omega
          rw [HN.out] at hR m3
          have hr := HK.out.room
          have hmn : (a.mid a.dir.length).n = a.n := by rw [HN.out] at m1; exact m1
          obtain ⟨lo, hlo⟩ : ∃ lo, lo = (a.mid a.dir.length).low := ⟨_, rfl⟩
          have hle : 0 + (List.replicate lo (0 : UInt8)).length ≤ (a.mid a.dir.length).cells.length := by
            rw [List.length_replicate]
            show 0 + lo ≤ (a.mid a.dir.length).n
            rw [hmn, hlo, List.take_length] at *
            omega
          have hcp : a.compact = ⟨putL (a.mid a.dir.length).cells 0 (List.replicate lo 0), lo, (a.mid a.dir.length).dir⟩ := by rw [hlo]; rfl
          obtain ⟨h7, cB7, c70⟩ := hR.cell0
          rw [hmn] at c70
          have c71 : wr.cell? ⟨q, 1, none⟩ = some (.int .i64 (lo : Int)) := by rw [hlo]; obtain ⟨_, _, _, L', _⟩ := hR.lay; exact L'.cell1
          have hlon : lo ≤ a.n := by rw [hlo]; rw [List.take_length] at m3; omega
          have HR7 := Lib.hid (show Rf wr q ⟨(a.mid a.dir.length).cells, lo, (a.mid a.dir.length).dir⟩ F by rw [hlo]; exact hR)
          have HT7 := Lib.hid hT
          have HCP := Lib.hid hcp
          have HLE := Lib.hid hle
          have HMN := Lib.hid (show (a.mid a.dir.length).cells.length = a.n from hmn)
          have HC70 := Lib.hid c70
          have lo0 : (0 : Int) ≤ (lo : Int) := Int.natCast_nonneg _
          have lo1 : (lo : Int) ≤ (a.n : Int) := by omega
          clear hR hT htx m1 m2 m3 m4 m5 m6 hr hmn hle hcp c70 hlo
          generalize (a.mid a.dir.length).cells = CS at *
          generalize (a.mid a.dir.length).dir = DS at *
          go_wp2_with fail
          obtain ⟨wo2, ewo2⟩ : ∃ wo : World, wo = wr := ⟨_, rfl⟩
          clear ewo2 c71 c2
          go_loopw [8] (fun i wr => ∃ m : Nat, m ≤ lo ∧ i = .int .i64 m ∧ Rf wr q ⟨putL CS 0 ((List.replicate lo (0 : UInt8)).take m), lo, DS⟩ F ∧ Touch F w wr ∧ wr.cell? ⟨q, 0, none⟩ = some (.slice (some ⟨h7, 0, none⟩) a.n cB7)) (fun i _ => lo - (intOf i).toNat)
          case atStart => exact ⟨0, by omega, by go_num, by rw [List.take_zero, putL_nil]; exact HR7.out, HT7.out, HC70.out⟩
          case round =>
            obtain ⟨m, hm, rfl, hR, hT, hc0⟩ := hrel
            clear HR7 HT7 HC70
            have c71 : wr.cell? ⟨q, 1, none⟩ = some (.int .i64 (lo : Int)) := by obtain ⟨_, _, _, L', _⟩ := hR.lay; exact L'.cell1
            by_cases hml : m < lo
            · have jn : ((List.replicate lo (0 : UInt8)).take m).length = m := by rw [List.length_take, List.length_replicate]; omega
              have nl : (putL CS 0 ((List.replicate lo (0 : UInt8)).take m)).length = a.n := by rw [putL_len (by rw [jn, HMN.out]; omega)]; exact HMN.out
              have bt := hR.byte (h := h7) (cB := cB7) (k := m) (by show wr.cell? _ = some (Value.slice _ (putL CS 0 ((List.replicate lo (0 : UInt8)).take m)).length _); rw [nl]; exact hc0) (by show m < (putL CS 0 ((List.replicate lo (0 : UInt8)).take m)).length; rw [nl]; omega) 0
              obtain ⟨y1, y2, y3, y4, y5⟩ := bt
              have ez := putL_step (c := CS) (k := 0) (t := List.replicate lo (0 : UInt8)) HLE.out (j := m) (by rw [List.length_replicate]; exact hml)
              rw [List.getElem_replicate, Nat.zero_add] at ez
              have y6 : Rf (wr.setCell ⟨h7, m, none⟩ (.int .u8 0)) q ⟨putL CS 0 ((List.replicate lo (0 : UInt8)).take (m + 1)), lo, DS⟩ F := by rw [← ez]; exact y3
              have y7 : (wr.setCell ⟨h7, m, none⟩ (.int .u8 0)).cell? ⟨q, 0, none⟩ = some (.slice (some ⟨h7, 0, none⟩) a.n cB7) := by
                have : (wr.setCell ⟨h7, m, none⟩ (.int .u8 0)).cell? ⟨q, 0, none⟩ = some (.slice (some ⟨h7, 0, none⟩) (putL CS 0 ((List.replicate lo (0 : UInt8)).take m)).length cB7) := y5
                rw [nl] at this
                exact this
              have Y6 := Lib.hid y6
              have Y7 := Lib.hid y7
              have Y4 := Lib.hid (show Touch F w (wr.setCell ⟨h7, m, none⟩ (.int .u8 0)) from hT.trans' y4)
              have m0 : (0 : Int) ≤ (m : Int) := Int.natCast_nonneg _
              have m1 : (m : Int) < (a.n : Int) := by omega
              clear y3 y4 y5 y6 y7 ez hR hT nl jn
              go_wp2_with fail
              go_roundw
              case rel => exact ⟨m + 1, by omega, by go_num, Y6.out, Y4.out, Y7.out⟩
              case measure => simp [intOf]; omega
            · obtain rfl : m = lo := by omega
              have hR8 : Rf wr q a.compact F := by
                rw [HCP.out]
                rw [List.take_of_length_le (by rw [List.length_replicate]; exact Nat.le_refl _)] at hR
                exact hR
              have ck := compact_ok HK.out
              obtain ⟨k1, k2, k3, k4, _⟩ := compact_all HK.out
              have gp := qgap_any hR8 (by rw [k2, ← HN.out]; omega) (by rw [← k3] at hn40; omega)
              have eg : (a.compact.low : Int) - (a.compact.fin : Int) = (a.compact.gap : Int) := by have := ck.fin; unfold A.gap; omega
              rw [eg] at gp
              have hg1 : (a.compact.gap : Int) ≤ 5000 := by unfold A.gap; omega
              have hg2 : (a.gap : Int) ≤ 5000 := by unfold A.gap; omega
              have hg3 : (0 : Int) ≤ (a.compact.gap : Int) := Int.natCast_nonneg _
              have hg4 : (0 : Int) ≤ (a.gap : Int) := Int.natCast_nonneg _
              have GP := Lib.hid gp
              have HR8 := Lib.hid hR8
              have HT8 := Lib.hid hT
              clear gp hR8 hR hT ck k1 k2 k3 k4 eg hc0
              go_wp2_with fail
              refine GP.out.mono ?_
              rintro e w9 ⟨rfl, b9⟩
              have HE := Lib.hid (show Rf w9 q a.compact F ∧ Touch F w w9 from ⟨HR8.out.later b9, HT8.out.trans' (Touch.ofNew b9)⟩)
              clear b9 GP HR8 HT8
              go_wp2_with fail
              go_ret
              exact ⟨rfl, HE.out⟩
end

end Go.Proofs.Ytehfclgngkhcpaa.Slot
