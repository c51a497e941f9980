/- Walks: Compact, whole. -/
import Derived.Test.YtehfclgngkhcpaaSW7
namespace Go.Proofs.Ytehfclgngkhcpaa.Slot
open Go.RowKit
attribute [local go_sem ↓] Go.wp_at_zero Go.wp_at_succ

/-- Compact's state: the first k texts are moved; its own two boxes -/
structure CoS (W0 : World) (p g c q o : Nat) (a : A) (old : ByteArray) (k : Nat) (w : World) : Prop where
  img : ∃ b, Ar w p g c b ∧ Is b (a.mid k)
  rq : w.heap[q]? = some (.cells #[.pointer (some ⟨p, 0, none⟩)] 50 (0, 0))
  ro : w.heap[o]? = some (.cells #[.string old] 9 (0, 0))
  tch : Touch (both p g) W0 w

theorem quiet_one {P : Program} {f : FuncId} {args : Array Value} {w : World} {v : Value} (h : Calls P f args w fun e w' => e = .returned v ∧ w = w') : Calls P f args w fun e w'' => e = .returned v ∧ w'' = w :=
  h.mono fun _ _ ⟨he, hm⟩ => ⟨he, hm.symm⟩

section
variable {w : World} {p g c : Nat} {a : A}
theorem CoS.move {W0 W : World} {q o k : Nat} {old : ByteArray} (hk : a.ok) (h : CoS W0 p g c q o a old k W) (hq : ¬ both p g q) (ho : ¬ both p g o) {b0 : List UInt8} (h0 : Is b0 a) (hold : old = strB b0) (hi : k < a.dir.length) :
    Calls Try.prog 83 #[.int .i64 (k : Int), .pointer (some ⟨q, 0, none⟩), .pointer (some ⟨o, 0, none⟩)] W fun e w' => e = .returned (.tuple #[]) ∧ CoS W0 p g c q o a old (k + 1) w' := by
  obtain ⟨⟨b, h1, h2⟩, h3, h4, h5⟩ := h
  obtain ⟨m1, m2, m3, m4, m5, m6, m7⟩ := mid_step hk hi h2
  have he := hk.each k hi
  have hf := hk.fin
  have hl := hk.low
  have hhi := hk.hi
  have ht := text_len hk hi
  have htx := is_text h0 hk hi
  have e1 : (old.extract (a.at k).1 ((a.at k).1 + (a.at k).2)).data.toList = a.text k := by rw [hold, ext_list, ← htx]; rfl
  have hos : old.size = a.n := by rw [hold, strB_size, h0.len]
  have hsz : (old.extract (a.at k).1 ((a.at k).1 + (a.at k).2)).size = (a.at k).2 := by
    show (old.extract (a.at k).1 ((a.at k).1 + (a.at k).2)).data.toList.length = _
    rw [e1, ht]
  unfold A.fin at hf
  have mv := move_any h1 (q := q) (o := o) (old := old) h3 h4 (i := k) (x := (a.at k).1) (y := (a.at k).2) (by omega) m2 (by omega) (by omega) (by omega) (by omega) rfl hsz (by rw [e1, m7]; omega)
  rw [e1] at mv
  refine mv.mono ?_
  rintro e w' ⟨rfl, k1, k2⟩
  exact ⟨rfl, ⟨_, k1, m1⟩, (k2.block q (Array.getElem?_eq_some_iff.1 h3).1 hq).trans h3, (k2.block o (Array.getElem?_eq_some_iff.1 h4).1 ho).trans h4, h5.trans' k2⟩

set_option maxRecDepth 100000 in
set_option maxHeartbeats 4000000 in
theorem compact_any (h : Area w p g c a) : Calls Try.prog 35 #[.pointer (some ⟨p, 0, none⟩)] w fun e w' => e = .returned (.int .i64 ((a.compact.gap : Int) - (a.gap : Int))) ∧ (Area w' p g c a.compact ∧ Touch (both p g) w w') := by
  have hlt := h.below
  obtain ⟨⟨b0, hb0, hi0⟩, hk⟩ := id h
  have ba : Below w.heap.size w (w.alloc (.cells #[.pointer (some ⟨p, 0, none⟩)] 50)) := (Below.refl _ _).alloc (Nat.le_refl _) _
  obtain ⟨W, hW⟩ : ∃ W, W = w.alloc (.cells #[.pointer (some ⟨p, 0, none⟩)] 50) := ⟨_, rfl⟩
  rw [← hW] at ba
  have hWs : W.heap.size = w.heap.size + 1 := by rw [hW]; simp
  have rq : W.heap[w.heap.size]? = some (.cells #[.pointer (some ⟨p, 0, none⟩)] 50 (0, 0)) := by rw [hW]; exact heap_alloc_new _ _
  have q0 : W.cell? ⟨w.heap.size, 0, none⟩ = some (.pointer (some ⟨p, 0, none⟩)) := by rw [cell_of_row _ _ _ _ _ _ rq]; rfl
  have hA := hb0.later ba
  have hArea := h.later ba
  have md := made_any hA
  have ga := fun W' (t : Below W.heap.size W W') => gap_is (hArea.later t)
  have by_ := fun W' (t : Below W.heap.size W W') => bytes_any (hA.later t)
  have GA := Lib.hid ga
  have BY := Lib.hid by_
  have HW := Lib.hid hW
  have HA := Lib.hid hA
  have BA := Lib.hid ba
  have RQ := Lib.hid rq
  have HWS := Lib.hid hWs
  clear hW hA hArea rq hWs ba ga by_ h
  go_enter Try.func35, Try.ntmps35
  go_wp2_with (first | rw [← HW.out])
  refine md.mono ?_
  rintro e w' ⟨rfl, rfl⟩
  clear md
  go_wp2_with fail
  go_cut [3, 4] (fun s3 s4 wx => s3 = .int .i64 (a.gap : Int) ∧ s4 = .pointer (some ⟨W.heap.size, 0, none⟩) ∧ wx.heap[W.heap.size]? = some (.cells #[.string (strB b0)] 9 (0, 0)) ∧ Below W.heap.size W wx)
  case first =>
    go_region_held3 (fun w' => w'.cell? ⟨w.heap.size, 0, none⟩ = some (.pointer (some ⟨p, 0, none⟩))) (go_keep)
      (first | (go_at_call 40; refine Calls.mono (GA.out _ (by first | exact (Below.refl _ _).drew | exact ((Below.refl _ _).drew).alloc (Nat.le_refl _) _ | exact (((Below.refl _ _).drew).alloc (Nat.le_refl _) _).setCell (by simp) _ | exact (((Below.refl _ _).drew).alloc (Nat.le_refl _) _)) ) ?_; rintro e w' ⟨rfl, rfl⟩) | (go_at_call 29; refine Calls.mono (BY.out _ (by first | exact (Below.refl _ _).drew | exact ((Below.refl _ _).drew).alloc (Nat.le_refl _) _ | exact (((Below.refl _ _).drew).alloc (Nat.le_refl _) _).setCell (by simp) _)) ?_; rintro e w' ⟨rfl, rfl⟩))
    all_goals
      go_wp2_with fail
      go_meet
      exact ⟨rfl, rfl, heap_alloc_new W _, ((Below.refl _ _).alloc (Nat.le_refl _) _).drew⟩
  case rest =>
    obtain ⟨rfl, rfl, hro, hbl⟩ := hcut
    have hq1 : w.heap.size < W.heap.size := by rw [HWS.out]; omega
    have rq2 := (hbl.block w.heap.size hq1).trans RQ.out
    have q2 : wc.cell? ⟨w.heap.size, 0, none⟩ = some (.pointer (some ⟨p, 0, none⟩)) := by rw [cell_of_row _ _ _ _ _ _ rq2]; rfl
    have A2 := HA.out.later hbl
    have c2 := A2.cell0
    have hqp : ¬ both p g w.heap.size := fun hh => by have := hlt _ hh; omega
    have hop : ¬ both p g W.heap.size := fun hh => by have := hlt _ hh; omega
    have hfin := hk.fin
    have hlow := hk.low
    have hn16 := hk.lo
    have hn40 := hk.hi
    have hlen := hi0.len
    have ly := lay_any A2.drew 2 a.n (by omega) (by omega)
    have C0 : ∀ W', Ar W' p g c (putL b0 2 (two a.n)) → Touch (both p g) wc.drew W' → CoS w p g c w.heap.size W.heap.size a (strB b0) 0 W' := fun W' k1 k2 =>
      ⟨⟨_, k1, is_low hi0 (by omega) (by omega)⟩, (k2.block _ (by have := hbl.size; show _ < wc.heap.size; omega) hqp).trans rq2, (k2.block _ (Array.getElem?_eq_some_iff.1 hro).1 hop).trans hro, ((Touch.ofNew BA.out : Touch (both p g) w W).trans' (Touch.ofNew hbl).drew).trans' k2⟩
    have CC := Lib.hid C0
    have HL := Lib.hid hlen
    rw [hlen] at c2
    have LY := Lib.hid ly
    clear hro hbl rq2 A2 ly C0 hlen GA BY HW HA RQ BA q0
    go_wp2_with fail
    go_still_tail 6, (by kernel_rfl)
    go_wp2_with fail
    refine LY.out.mono ?_
    rintro e w2 ⟨rfl, k1⟩
    have S0 := Lib.hid (CC.out w2 k1.1 k1.2)
    have rq3 := S0.out.rq
    have q3 : w2.cell? ⟨w.heap.size, 0, none⟩ = some (.pointer (some ⟨p, 0, none⟩)) := by rw [cell_of_row _ _ _ _ _ _ rq3]; rfl
    have ln : Calls Try.prog 37 #[.pointer (some ⟨p, 0, none⟩)] w2 fun e w' => e = .returned (.int .i64 (a.dir.length : Int)) ∧ w2 = w' := by
      obtain ⟨b1, n1, n2⟩ := S0.out.img
      have := len_any n1
      rw [n2.cnt] at this
      exact this
    have LN := Lib.hid ln
    obtain ⟨n, hn⟩ : ∃ n, n = a.dir.length := ⟨_, rfl⟩
    rw [← hn] at LN
    have hn1 : (n : Int) ≤ 2000 := by unfold A.fin at hfin; omega
    have hn0 : (0 : Int) ≤ (n : Int) := Int.natCast_nonneg _
    have HN := Lib.hid hn
    clear k1 LY CC rq3 ln hn
    go_wp2_with fail
    refine LN.out.mono ?_
    rintro e w' ⟨rfl, rfl⟩
    clear LN
    go_wp2_with fail
    go_loopw [24] (fun i wr => ∃ k : Nat, k ≤ n ∧ i = .int .i64 k ∧ CoS w p g c w.heap.size W.heap.size a (strB b0) k wr) (fun i _ => n - (intOf i).toNat)
    case atStart => exact ⟨0, by omega, by go_num, S0.out⟩
    case round =>
      obtain ⟨k, hkn, rfl, hs⟩ := hrel
      clear S0 q3
      by_cases hlt : k < n
      · have mv := Lib.hid (hs.move hk hqp hop hi0 rfl (k := k) (by rw [← HN.out]; exact hlt))
        clear hs
        go_wp2_with fail
        refine mv.out.mono ?_
        rintro e w3 ⟨rfl, h3⟩
        have H3 := Lib.hid h3
        clear h3 mv
        go_wp2_with fail
        go_roundw
        case rel => exact ⟨k + 1, by omega, by go_num, H3.out⟩
        case measure => simp [intOf]; omega
      · obtain rfl : k = n := by omega
        obtain ⟨⟨b1, A1, I1⟩, rq3, ro3, T3⟩ := hs
        rw [HN.out] at I1
        obtain ⟨m1, m2, m3, m4, m5, m6⟩ := mid_all hk a.dir.length (Nat.le_refl _)
        rw [List.take_length] at m3
        have hr := hk.room
        have hlen := HL.out
        have k1 : b1.length = a.n := by rw [I1.len]; exact m1
        have hf2 : (a.mid a.dir.length).fin = a.fin := by unfold A.fin; rw [m2]
        have I2 := is_clear I1 (by omega) (by omega)
        rw [hf2] at I2
        have IC : Is (putL b1 a.fin (List.replicate ((a.mid a.dir.length).low - a.fin) 0)) a.compact := I2
        clear I2
        have hlo := I1.low
        have en := end_any A1.drew
        have lo := low_any A1.drew
        have e4 : 4 + 4 * numL b1 0 = a.fin := by rw [I1.cnt, m2]; rfl
        rw [e4] at en
        rw [hlo] at lo
        obtain ⟨F, hF⟩ : ∃ F, F = a.fin := ⟨_, rfl⟩
        obtain ⟨L, hL⟩ : ∃ L, L = (a.mid a.dir.length).low := ⟨_, rfl⟩
        have hFL : F ≤ L := by omega
        have hLn : L ≤ b1.length := by omega
        have hcap := A1.cap
        rw [← hF] at en IC
        rw [← hL] at lo IC
        have A3 := A1.drew.put (k := F) (t := List.replicate (L - F) 0) (by rw [List.length_replicate]; omega)
        have A3' : Area (wr.drew.setCells g F (Lib.byteCells (List.replicate (L - F) 0))) p g c a.compact := ⟨⟨_, A3.1, IC⟩, compact_ok hk⟩
        have T4 : Touch (both p g) w (wr.drew.setCells g F (Lib.byteCells (List.replicate (L - F) 0))) := T3.drew.trans' A3.2
        have rq5 := (A3.2.block _ (Array.getElem?_eq_some_iff.1 rq3).1 hqp).trans rq3
        have sl := fun W => slice_part W (g := g) (n := b1.length) (c := c) (k := F) (m := L) hFL (by omega)
        have q3 : wr.cell? ⟨w.heap.size, 0, none⟩ = some (.pointer (some ⟨p, 0, none⟩)) := by rw [cell_of_row _ _ _ _ _ _ rq3]; rfl
        have c3 := A1.cell0
        have RW := A1.row
        rw [k1] at c3 sl
        have EN := Lib.hid en
        have LO := Lib.hid lo
        have HA3 := Lib.hid A3'
        have HT4 := Lib.hid T4
        have HR5 := Lib.hid rq5
        have HRW := Lib.hid RW
        have K1 := Lib.hid k1
        clear A1 I1 rq3 ro3 T3 m1 m2 m3 m4 m5 m6 hr hlen k1 hf2 IC hlo en lo e4 hF hL A3 A3' T4 rq5 RW
        go_wp2_with fail
        (refine wp_region_still_tail 9 (by kernel_rfl) (by kernel_rfl) (still_of_quiet _ _ ?_); simp only [List.take_succ_cons, List.take_zero, List.drop_succ_cons, List.drop_zero]; (repeat (first | go_big_quiet_skip | (go_big_quiet_want; go_big_quiet_op; first | go_big_quiet_on | (apply Exists.intro; refine ⟨?_, ?_⟩; (first | (go_at_call 82; exact quiet_one EN.out) | (go_at_call 85; exact quiet_one LO.out)); go_big_quiet_on)))); refine wpQuiet_nil ?_)
        change wpList _ _ _ _ _ wr.drew
        refine wpList_clear (show Row wr.drew g b1 from HRW.out.far rfl) rfl _ rfl F L hFL hLn hcap rfl ?_
        generalize wr.drew.setCells g F (Lib.byteCells (List.replicate (L - F) 0)) = w5 at *
        have q5 : w5.cell? ⟨w.heap.size, 0, none⟩ = some (.pointer (some ⟨p, 0, none⟩)) := by rw [cell_of_row _ _ _ _ _ _ HR5.out]; rfl
        have gp := gap_is HA3.out
        have hg1 : (a.compact.gap : Int) ≤ 5000 := by
          have h1 := compact_ok hk
          have h2 := h1.hi
          have h3 := h1.low
          unfold A.gap; omega
        have hg2 : (a.gap : Int) ≤ 5000 := by unfold A.gap; omega
        have hg3 : (0 : Int) ≤ (a.compact.gap : Int) := Int.natCast_nonneg _
        have hg4 : (0 : Int) ≤ (a.gap : Int) := Int.natCast_nonneg _
        have GP := Lib.hid gp
        clear gp EN LO HR5 HRW sl c3 q3
        go_wp2_with fail
        refine GP.out.mono ?_
        rintro e w' ⟨rfl, rfl⟩
        go_wp2_with fail
        go_ret
        exact ⟨rfl, HA3.out, HT4.out⟩
end

end Go.Proofs.Ytehfclgngkhcpaa.Slot
