/-
  Walks: Compact, whole.
  Walks: Put.
  Walks: Set.
  Walks: an area of the call's own.
  Memory: pages that come in, or were made; what rows leave.
  Walks: what Load asks: framed, within, apart.
  Walks: no byte is two texts'.
  Walks: Load.
  Memory: a slice of texts of the call's own: append, slices, a store.
  Memory: the document's area.
  Walks: a head's parts are written.
  Walks: a head's parts, one by one.
-/
import Derived.Laws.OwnMore
import Derived.Laws.AppendOwnNone
import Derived.Maps.AppendAt
import Derived.Test.YtmandeohbiagfaaZ2
namespace Go.Proofs.Ytmandeohbiagfaa.Slot
open Go.RowKit
attribute [local go_sem ↓] Go.wp_at_zero Go.wp_at_succ

/-- Compact's state: the first k texts are moved; its own two boxes -/
structure CoS (W0 : World) (p g c q o : Nat) (a : A) (old : ByteArray) (k : Nat) (w : World) : Prop where
  img : ∃ b, Ar w p g c b ∧ Is b (a.mid k)
  rq : w.heap[q]? = some (.cells #[.pointer (some ⟨p, 0, none⟩)] 77 (0, 0))
  ro : w.heap[o]? = some (.cells #[.string old] 9 (0, 0))
  tch : Touch (both p g) W0 w

theorem quiet_one {P : Program} {f : FuncId} {args : Array Value} {w : World} {v : Value} (h : Calls P f args w fun e w' => e = .returned v ∧ w = w') : Calls P f args w fun e w'' => e = .returned v ∧ w'' = w :=
  h.mono fun _ _ ⟨he, hm⟩ => ⟨he, hm.symm⟩

section
variable {w : World} {p g c : Nat} {a : A}
theorem CoS.move {W0 W : World} {q o k : Nat} {old : ByteArray} (hk : a.ok) (h : CoS W0 p g c q o a old k W) (hq : ¬ both p g q) (ho : ¬ both p g o) {b0 : List UInt8} (h0 : Is b0 a) (hold : old = strB b0) (hi : k < a.dir.length) :
    Calls Try.prog 92 #[.int .i64 (k : Int), .pointer (some ⟨q, 0, none⟩), .pointer (some ⟨o, 0, none⟩)] W fun e w' => e = .returned (.tuple #[]) ∧ CoS W0 p g c q o a old (k + 1) w' := by
  obtain ⟨⟨b, h1, h2⟩, h3, h4, h5⟩ := h
  obtain ⟨m1, m2, m3, m4, m5, m6, m7⟩ := mid_step hk hi h2
  have he := hk.each k hi
  have hf := hk.fin
  have hl := hk.low
  have hhi := hk.hi
  have ht := text_len hk hi
  have htx := is_text h0 hk hi
  have e1 : (old.extract (a.at k).1 ((a.at k).1 + (a.at k).2)).data.toList = a.text k := by rw [hold, ext_list, ← htx]; rfl
  have hos : old.size = a.n := by rw [hold, strB_size, h0.len]
  have hsz : (old.extract (a.at k).1 ((a.at k).1 + (a.at k).2)).size = (a.at k).2 := by
    show (old.extract (a.at k).1 ((a.at k).1 + (a.at k).2)).data.toList.length = _
    rw [e1, ht]
  unfold A.fin at hf
  have mv := move_any h1 (q := q) (o := o) (old := old) h3 h4 (i := k) (x := (a.at k).1) (y := (a.at k).2) (by omega) m2 (by omega) (by omega) (by omega) (by omega) rfl hsz (by rw [e1, m7]; omega)
  rw [e1] at mv
  refine mv.mono ?_
  rintro e w' ⟨rfl, k1, k2⟩
  exact ⟨rfl, ⟨_, k1, m1⟩, (k2.block q (Array.getElem?_eq_some_iff.1 h3).1 hq).trans h3, (k2.block o (Array.getElem?_eq_some_iff.1 h4).1 ho).trans h4, h5.trans' k2⟩

set_option maxRecDepth 100000 in
set_option maxHeartbeats 4000000 in
theorem compact_any (h : Area w p g c a) : Calls Try.prog 74 #[.pointer (some ⟨p, 0, none⟩)] w fun e w' => e = .returned (.int .i64 ((a.compact.gap : Int) - (a.gap : Int))) ∧ (Area w' p g c a.compact ∧ Touch (both p g) w w') := by
  have hlt := h.below
  obtain ⟨⟨b0, hb0, hi0⟩, hk⟩ := id h
  have ba : Below w.heap.size w (w.alloc (.cells #[.pointer (some ⟨p, 0, none⟩)] 77)) := (Below.refl _ _).alloc (Nat.le_refl _) _
  obtain ⟨W, hW⟩ : ∃ W, W = w.alloc (.cells #[.pointer (some ⟨p, 0, none⟩)] 77) := ⟨_, rfl⟩
  rw [← hW] at ba
  have hWs : W.heap.size = w.heap.size + 1 := by rw [hW]; simp
  have rq : W.heap[w.heap.size]? = some (.cells #[.pointer (some ⟨p, 0, none⟩)] 77 (0, 0)) := by rw [hW]; exact heap_alloc_new _ _
  have q0 : W.cell? ⟨w.heap.size, 0, none⟩ = some (.pointer (some ⟨p, 0, none⟩)) := by rw [cell_of_row _ _ _ _ _ _ rq]; rfl
  have hA := hb0.later ba
  have hArea := h.later ba
  have md := made_any hA
  have ga := fun W' (t : Below W.heap.size W W') => gap_is (hArea.later t)
  have by_ := fun W' (t : Below W.heap.size W W') => bytes_any (hA.later t)
  have GA := Lib.hid ga
  have BY := Lib.hid by_
  have HW := Lib.hid hW
  have HA := Lib.hid hA
  have BA := Lib.hid ba
  have RQ := Lib.hid rq
  have HWS := Lib.hid hWs
  clear hW hA hArea rq hWs ba ga by_ h
  go_enter Try.func74, Try.ntmps74
  go_wp2_with (first | rw [← HW.out])
  refine md.mono ?_
  rintro e w' ⟨rfl, rfl⟩
  clear md
  go_wp2_with fail
  go_cut [3, 4] (fun s3 s4 wx => s3 = .int .i64 (a.gap : Int) ∧ s4 = .pointer (some ⟨W.heap.size, 0, none⟩) ∧ wx.heap[W.heap.size]? = some (.cells #[.string (strB b0)] 9 (0, 0)) ∧ Below W.heap.size W wx)
  case first =>
    go_region_held3 (fun w' => w'.cell? ⟨w.heap.size, 0, none⟩ = some (.pointer (some ⟨p, 0, none⟩))) (go_keep)
      (first | (go_at_call 73; refine Calls.mono (GA.out _ (by first | exact (Below.refl _ _).drew | exact ((Below.refl _ _).drew).alloc (Nat.le_refl _) _ | exact (((Below.refl _ _).drew).alloc (Nat.le_refl _) _).setCell (by simp) _ | exact (((Below.refl _ _).drew).alloc (Nat.le_refl _) _)) ) ?_; rintro e w' ⟨rfl, rfl⟩) | (go_at_call 45; refine Calls.mono (BY.out _ (by first | exact (Below.refl _ _).drew | exact ((Below.refl _ _).drew).alloc (Nat.le_refl _) _ | exact (((Below.refl _ _).drew).alloc (Nat.le_refl _) _).setCell (by simp) _)) ?_; rintro e w' ⟨rfl, rfl⟩))
    all_goals
      go_wp2_with fail
      go_meet
      exact ⟨rfl, rfl, heap_alloc_new W _, ((Below.refl _ _).alloc (Nat.le_refl _) _).drew⟩
  case rest =>
    obtain ⟨rfl, rfl, hro, hbl⟩ := hcut
    have hq1 : w.heap.size < W.heap.size := by rw [HWS.out]; omega
    have rq2 := (hbl.block w.heap.size hq1).trans RQ.out
    have q2 : wc.cell? ⟨w.heap.size, 0, none⟩ = some (.pointer (some ⟨p, 0, none⟩)) := by rw [cell_of_row _ _ _ _ _ _ rq2]; rfl
    have A2 := HA.out.later hbl
    have c2 := A2.cell0
    have hqp : ¬ both p g w.heap.size := fun hh => by have := hlt _ hh; omega
    have hop : ¬ both p g W.heap.size := fun hh => by have := hlt _ hh; omega
    have hfin := hk.fin
    have hlow := hk.low
    have hn16 := hk.lo
    have hn40 := hk.hi
    have hlen := hi0.len
    have ly := lay_any A2.drew 2 a.n (by omega) (by omega)
    have C0 : ∀ W', Ar W' p g c (putL b0 2 (two a.n)) → Touch (both p g) wc.drew W' → CoS w p g c w.heap.size W.heap.size a (strB b0) 0 W' := fun W' k1 k2 =>
      ⟨⟨_, k1, is_low hi0 (by omega) (by omega)⟩, (k2.block _ (by have := hbl.size; show _ < wc.heap.size; omega) hqp).trans rq2, (k2.block _ (Array.getElem?_eq_some_iff.1 hro).1 hop).trans hro, ((Touch.ofNew BA.out : Touch (both p g) w W).trans' (Touch.ofNew hbl).drew).trans' k2⟩
    have CC := Lib.hid C0
    have HL := Lib.hid hlen
    rw [hlen] at c2
    have LY := Lib.hid ly
    clear hro hbl rq2 A2 ly C0 hlen GA BY HW HA RQ BA q0
    go_wp2_with fail
    go_still_tail 6, (by kernel_rfl)
    go_wp2_with fail
    refine LY.out.mono ?_
    rintro e w2 ⟨rfl, k1⟩
    have S0 := Lib.hid (CC.out w2 k1.1 k1.2)
    have rq3 := S0.out.rq
    have q3 : w2.cell? ⟨w.heap.size, 0, none⟩ = some (.pointer (some ⟨p, 0, none⟩)) := by rw [cell_of_row _ _ _ _ _ _ rq3]; rfl
    have ln : Calls Try.prog 56 #[.pointer (some ⟨p, 0, none⟩)] w2 fun e w' => e = .returned (.int .i64 (a.dir.length : Int)) ∧ w2 = w' := by
      obtain ⟨b1, n1, n2⟩ := S0.out.img
      have := len_any n1
      rw [n2.cnt] at this
      exact this
    have LN := Lib.hid ln
    obtain ⟨n, hn⟩ : ∃ n, n = a.dir.length := ⟨_, rfl⟩
    rw [← hn] at LN
    have hn1 : (n : Int) ≤ 2000 := by unfold A.fin at hfin; omega
    have hn0 : (0 : Int) ≤ (n : Int) := Int.natCast_nonneg _
    have HN := Lib.hid hn
    clear k1 LY CC rq3 ln hn
    go_wp2_with fail
    refine LN.out.mono ?_
    rintro e w' ⟨rfl, rfl⟩
    clear LN
    go_wp2_with fail
    go_loopw [24] (fun i wr => ∃ k : Nat, k ≤ n ∧ i = .int .i64 k ∧ CoS w p g c w.heap.size W.heap.size a (strB b0) k wr) (fun i _ => n - (intOf i).toNat)
    case atStart => exact ⟨0, by omega, by go_num, S0.out⟩
    case round =>
      obtain ⟨k, hkn, rfl, hs⟩ := hrel
      clear S0 q3
      by_cases hlt : k < n
      · have mv := Lib.hid (hs.move hk hqp hop hi0 rfl (k := k) (by rw [← HN.out]; exact hlt))
        clear hs
        go_wp2_with fail
        refine mv.out.mono ?_
        rintro e w3 ⟨rfl, h3⟩
        have H3 := Lib.hid h3
        clear h3 mv
        go_wp2_with fail
        go_roundw
        case rel => exact ⟨k + 1, by omega, by go_num, H3.out⟩
        case measure => simp [intOf]; omega
      · obtain rfl : k = n := by omega
        obtain ⟨⟨b1, A1, I1⟩, rq3, ro3, T3⟩ := hs
        rw [HN.out] at I1
        obtain ⟨m1, m2, m3, m4, m5, m6⟩ := mid_all hk a.dir.length (Nat.le_refl _)
        rw [List.take_length] at m3
        have hr := hk.room
        have hlen := HL.out
        have k1 : b1.length = a.n := by rw [I1.len]; exact m1
        have hf2 : (a.mid a.dir.length).fin = a.fin := by unfold A.fin; rw [m2]
        have I2 := is_clear I1 (by omega) (by omega)
        rw [hf2] at I2
        have IC : Is (putL b1 a.fin (List.replicate ((a.mid a.dir.length).low - a.fin) 0)) a.compact := I2
        clear I2
        have hlo := I1.low
        have en := end_any A1.drew
        have lo := low_any A1.drew
        have e4 : 4 + 4 * numL b1 0 = a.fin := by rw [I1.cnt, m2]; rfl
        rw [e4] at en
        rw [hlo] at lo
        obtain ⟨F, hF⟩ : ∃ F, F = a.fin := ⟨_, rfl⟩
        obtain ⟨L, hL⟩ : ∃ L, L = (a.mid a.dir.length).low := ⟨_, rfl⟩
        have hFL : F ≤ L := by omega
        have hLn : L ≤ b1.length := by omega
        have hcap := A1.cap
        rw [← hF] at en IC
        rw [← hL] at lo IC
        have A3 := A1.drew.put (k := F) (t := List.replicate (L - F) 0) (by rw [List.length_replicate]; omega)
        have A3' : Area (wr.drew.setCells g F (Lib.byteCells (List.replicate (L - F) 0))) p g c a.compact := ⟨⟨_, A3.1, IC⟩, compact_ok hk⟩
        have T4 : Touch (both p g) w (wr.drew.setCells g F (Lib.byteCells (List.replicate (L - F) 0))) := T3.drew.trans' A3.2
        have rq5 := (A3.2.block _ (Array.getElem?_eq_some_iff.1 rq3).1 hqp).trans rq3
        have sl := fun W => slice_part W (g := g) (n := b1.length) (c := c) (k := F) (m := L) hFL (by omega)
        have q3 : wr.cell? ⟨w.heap.size, 0, none⟩ = some (.pointer (some ⟨p, 0, none⟩)) := by rw [cell_of_row _ _ _ _ _ _ rq3]; rfl
        have c3 := A1.cell0
        have RW := A1.row
        rw [k1] at c3 sl
        have EN := Lib.hid en
        have LO := Lib.hid lo
        have HA3 := Lib.hid A3'
        have HT4 := Lib.hid T4
        have HR5 := Lib.hid rq5
        have HRW := Lib.hid RW
        have K1 := Lib.hid k1
        clear A1 I1 rq3 ro3 T3 m1 m2 m3 m4 m5 m6 hr hlen k1 hf2 IC hlo en lo e4 hF hL A3 A3' T4 rq5 RW
        go_wp2_with fail
        (refine wp_region_still_tail 9 (by kernel_rfl) (by kernel_rfl) (still_of_quiet _ _ ?_); simp only [List.take_succ_cons, List.take_zero, List.drop_succ_cons, List.drop_zero]; (repeat (first | go_big_quiet_skip | (go_big_quiet_want; go_big_quiet_op; first | go_big_quiet_on | (apply Exists.intro; refine ⟨?_, ?_⟩; (first | (go_at_call 76; exact quiet_one EN.out) | (go_at_call 91; exact quiet_one LO.out)); go_big_quiet_on)))); refine wpQuiet_nil ?_)
        change wpList _ _ _ _ _ wr.drew
        refine wpList_clear (show Row wr.drew g b1 from HRW.out.far rfl) rfl _ rfl F L hFL hLn hcap rfl ?_
        generalize wr.drew.setCells g F (Lib.byteCells (List.replicate (L - F) 0)) = w5 at *
        have q5 : w5.cell? ⟨w.heap.size, 0, none⟩ = some (.pointer (some ⟨p, 0, none⟩)) := by rw [cell_of_row _ _ _ _ _ _ HR5.out]; rfl
        have gp := gap_is HA3.out
        have hg1 : (a.compact.gap : Int) ≤ 5000 := by
          have h1 := compact_ok hk
          have h2 := h1.hi
          have h3 := h1.low
          unfold A.gap; omega
        have hg2 : (a.gap : Int) ≤ 5000 := by unfold A.gap; omega
        have hg3 : (0 : Int) ≤ (a.compact.gap : Int) := Int.natCast_nonneg _
        have hg4 : (0 : Int) ≤ (a.gap : Int) := Int.natCast_nonneg _
        have GP := Lib.hid gp
        clear gp EN LO HR5 HRW sl c3 q3
        go_wp2_with fail
        refine GP.out.mono ?_
        rintro e w' ⟨rfl, rfl⟩
        go_wp2_with fail
        go_ret
        exact ⟨rfl, HA3.out, HT4.out⟩
end

end Go.Proofs.Ytmandeohbiagfaa.Slot

namespace Go.Proofs.Ytmandeohbiagfaa.Slot
open Go.RowKit
attribute [local go_sem ↓] Go.wp_at_zero Go.wp_at_succ

section
variable {w : World} {p g c : Nat} {a : A}
theorem made_is (h : Area w p g c a) : Calls Try.prog 71 #[.pointer (some ⟨p, 0, none⟩)] w fun e w' => e = .returned (.bool true) ∧ w = w' := by
  obtain ⟨⟨b, h1, h2⟩, h3⟩ := h
  exact made_any h1
set_option maxRecDepth 100000 in
theorem put_arg (h : Area w p g c a) (i : Int) (t : ByteArray) (ht : t.size ≤ 281474976710656) (hi : i < 0 ∨ (a.dir.length : Int) < i) :
    Calls Try.prog 44 #[.pointer (some ⟨p, 0, none⟩), .int .i64 i, .string t] w fun e w' => e = .returned (.int .i64 2) ∧ w = w' := by
  have m := Lib.hid (made_is h)
  have l := Lib.hid (len_is h)
  by_cases h0 : i < 0
  · have e0 : decide (i < 0) = true := decide_eq_true h0
    clear h0 hi
    go_enter Try.func44, Try.ntmps44
    go_wp2_with fail
    refine m.out.mono ?_
    rintro e w' ⟨rfl, rfl⟩
    go_wp2_with fail
    go_ret
    exact ⟨rfl, rfl⟩
  · have e0 : decide (i < 0) = false := decide_eq_false h0
    have e1 : decide ((a.dir.length : Int) < i) = true := decide_eq_true (by omega)
    clear h0 hi
    go_enter Try.func44, Try.ntmps44
    go_wp2_with fail
    refine m.out.mono ?_
    rintro e w' ⟨rfl, rfl⟩
    go_wp2_with fail
    refine l.out.mono ?_
    rintro e w' ⟨rfl, rfl⟩
    go_wp2_with fail
    go_ret
    exact ⟨rfl, rfl⟩
set_option maxRecDepth 100000 in
theorem put_full (h : Area w p g c a) (i : Int) (t : ByteArray) (ht : t.size ≤ 281474976710656) (hi : 0 ≤ i ∧ i ≤ (a.dir.length : Int)) (hf : a.free < t.size + 4) :
    Calls Try.prog 44 #[.pointer (some ⟨p, 0, none⟩), .int .i64 i, .string t] w fun e w' => e = .returned (.int .i64 4) ∧ Below w.heap.size w w' := by
  have m := Lib.hid (made_is h)
  have l := Lib.hid (len_is h)
  have f := Lib.hid (free_is h)
  have e0 : decide (i < 0) = false := decide_eq_false (by omega)
  have e1 : decide ((a.dir.length : Int) < i) = false := decide_eq_false (by omega)
  have e2 : decide ((a.free : Int) < (t.size : Int) + 4) = true := decide_eq_true (by omega)
  have e3 : decide (a.free < t.size + 4) = true := decide_eq_true hf
  clear hi hf
  go_enter Try.func44, Try.ntmps44
  go_wp2_with fail
  refine m.out.mono ?_
  rintro e w' ⟨rfl, rfl⟩
  go_wp2_with fail
  refine l.out.mono ?_
  rintro e w' ⟨rfl, rfl⟩
  go_wp2_with fail
  refine f.out.mono ?_
  rintro e w' ⟨rfl, hb⟩
  have HB := Lib.hid hb
  clear hb
  go_wp2_with fail
  go_ret
  exact ⟨rfl, HB.out⟩

set_option maxRecDepth 100000 in
set_option maxHeartbeats 4000000 in
theorem put_room (h : Area w p g c a) (k : Nat) (t : ByteArray) (hi : k ≤ a.dir.length) (hf : t.size + 4 ≤ a.free) :
    Calls Try.prog 44 #[.pointer (some ⟨p, 0, none⟩), .int .i64 (k : Int), .string t] w fun e w' => e = .returned (.int .i64 0) ∧ (Area w' p g c ((room a (t.size + 4)).putAt k t.data.toList) ∧ Touch (both p g) w w') := by
  have hk := h.ok
  have hlt := h.below
  have m := Lib.hid (made_is h)
  have l := Lib.hid (len_is h)
  have f := Lib.hid (free_is h)
  have hfr : a.free ≤ 4096 := by have := hk.hi; unfold A.free; omega
  have hdl : a.dir.length ≤ 2000 := by have := hk.hi; have := hk.fin; have := hk.low; unfold A.fin at *; omega
  have ht5 : t.size ≤ 5000 := by omega
  have ga := Lib.hid (fun W (t : Below w.heap.size w W) => gap_is (h.later t))
  have co := Lib.hid (fun W (t : Below w.heap.size w W) => compact_any (h.later t))
  have e1 : decide ((a.dir.length : Int) < (k : Int)) = false := decide_eq_false (by omega)
  have e1' : decide (a.dir.length < k) = false := decide_eq_false (by omega)
  have e2 : decide ((a.free : Int) < (t.size : Int) + 4) = false := decide_eq_false (by omega)
  have e3 : decide (a.free < t.size + 4) = false := decide_eq_false (by omega)
  have RM := Lib.hid (room_all hk (t.size + 4))
  have HF := Lib.hid hf
  have HI := Lib.hid hi
  have H := Lib.hid h
  have k0 : (k : Int) ≤ 2000 := by omega
  have k1 : (0 : Int) ≤ (k : Int) := Int.natCast_nonneg _
  have t0 : (t.size : Int) ≤ 5000 := by omega
  have t1 : (0 : Int) ≤ (t.size : Int) := Int.natCast_nonneg _
  clear hi hf h
  obtain ⟨a1, ha1⟩ : ∃ a1, a1 = room a (t.size + 4) := ⟨_, rfl⟩
  have HA1 := Lib.hid ha1
  rw [← ha1] at RM ⊢
  unfold room at ha1
  have hz : ∃ z : Bool, decide ((a.gap : Int) < (t.size : Int) + 4) = z ∧ decide (a.gap < t.size + 4) = z := ⟨_, rfl, by rw [decide_eq_decide]; omega⟩
  obtain ⟨z, e4, e5⟩ := hz
  have hc : (z = true ∧ a1 = a.compact) ∨ (z = false ∧ a1 = a) := by
    rw [ha1, ← e5]
    by_cases hg : a.gap < t.size + 4
    · rw [if_pos hg]; simp [hg]
    · rw [if_neg hg]; simp [hg]
  clear ha1 HA1
  have HC := Lib.hid hc
  clear hc
  go_enter Try.func44, Try.ntmps44
  go_wp2_with fail
  refine m.out.mono ?_
  rintro e w' ⟨rfl, rfl⟩
  go_wp2_with fail
  refine l.out.mono ?_
  rintro e w' ⟨rfl, rfl⟩
  go_wp2_with fail
  refine f.out.mono ?_
  rintro e w1 ⟨rfl, hb⟩
  have HB := Lib.hid hb
  clear hb m l f
  go_wp2_with fail
  refine (ga.out _ HB.out).mono ?_
  rintro e w' ⟨rfl, rfl⟩
  go_upto_if 32 with fail
  go_cut [] (fun wx => Area wx p g c a1 ∧ Touch (both p g) w wx)
  case first =>
    rcases HC.out with ⟨rfl, hc⟩ | ⟨rfl, hc⟩
    · have HC2 := Lib.hid hc
      clear hc
      go_wp2_with fail
      refine (co.out _ HB.out).mono ?_
      rintro e w2 ⟨rfl, h2⟩
      rw [← HC2.out] at h2
      have H2 := Lib.hid (show Area w2 p g c a1 ∧ Touch (both p g) w w2 from ⟨h2.1, (Touch.ofNew HB.out).trans' h2.2⟩)
      clear h2
      go_wp2_with fail
      go_meet
      exact H2.out
    · have H2 := Lib.hid (show Area w1 p g c a1 ∧ Touch (both p g) w w1 from ⟨by rw [hc]; exact H.out.later HB.out, Touch.ofNew HB.out⟩)
      clear hc
      go_wp2_with fail
      go_meet
      exact H2.out
  case rest =>
    obtain ⟨hA2, hT2⟩ := hcut
    obtain ⟨⟨b, A2, I2⟩, hk1⟩ := hA2
    obtain ⟨r1, r2, r3, r4, r5, r6⟩ := RM.out
    have r7 := r5 (by have := HF.out; omega)
    have hi := HI.out
    have hfin := hk1.fin
    have hlow := hk1.low
    have hn40 := hk1.hi
    have hlen := I2.len
    have hcap := A2.cap
    have c2 := A2.cell0
    have htl : t.data.toList.length = t.size := rfl
    obtain ⟨p1, p2, p3, p4⟩ := put_all I2 hk1 (i := k) (by omega) (t := t.data.toList) (by rw [htl]; omega)
    have hfd : a1.fin = 4 + 4 * a1.dir.length := rfl
    obtain ⟨P0, hP0⟩ : ∃ x, x = 4 + 4 * k := ⟨_, rfl⟩
    obtain ⟨P1, hP1⟩ : ∃ x, x = 4 + 4 * (k + 1) := ⟨_, rfl⟩
    obtain ⟨F, hF⟩ : ∃ x, x = 4 + 4 * a1.dir.length := ⟨_, rfl⟩
    have q0 := place_any k wc.drew (by omega)
    have q1 := place_any (k + 1) wc.drew (by omega)
    rw [← hP0] at q0
    rw [← hP1, show ((k + 1 : Nat) : Int) = (k : Int) + 1 by omega] at q1
    have q2 := end_any A2.drew
    rw [I2.cnt, ← hF] at q2
    have Q0 := Lib.hid q0
    have Q1 := Lib.hid q1
    have Q2 := Lib.hid q2
    have sl1 := fun W => slice_from W (g := g) (n := b.length) (c := c) (k := P1) (by omega)
    have sl2 := fun W => slice_part W (g := g) (n := b.length) (c := c) (k := P0) (m := F) (by omega) (by omega)
    have RW := Lib.hid (show Row wc.drew g b from A2.drew.row)
    have hPF : P0 ≤ F := by omega
    have hFb : F ≤ b.length := by omega
    have hP1b : P1 + (F - P0) ≤ b.length := by omega
    have e6 : putL (putL b P1 ((b.drop P0).take (F - P0))) 0 (two (a1.dir.length + 1)) = opened b k a1.dir.length := by
      unfold opened
      rw [show P1 = 8 + 4 * k by omega, show F - P0 = 4 * (a1.dir.length - k) by omega, hP0]
    have hpl : ((b.drop P0).take (F - P0)).length = F - P0 := part_len (by omega)
    have B5l : (putL b P1 ((b.drop P0).take (F - P0))).length = b.length := putL_len (by rw [hpl]; omega)
    have B50 : numL (putL b P1 ((b.drop P0).take (F - P0))) 0 = a1.dir.length := by
      rw [num_far (by rw [hpl]; omega) (by omega)]; exact I2.cnt
    have w3 := A2.drew.put (k := P1) (t := (b.drop P0).take (F - P0)) (by rw [hpl]; omega)
    obtain ⟨n, hn⟩ : ∃ n, n = a1.dir.length := ⟨_, rfl⟩
    have hn1 : (n : Int) ≤ 2000 := by omega
    have hn0 : (0 : Int) ≤ (n : Int) := Int.natCast_nonneg _
    obtain ⟨W5, hW5⟩ : ∃ W5, W5 = wc.drew.setCells g P1 (Lib.byteCells ((b.drop P0).take (F - P0))) := ⟨_, rfl⟩
    obtain ⟨B6, hB6⟩ : ∃ B6, B6 = opened b k a1.dir.length := ⟨_, rfl⟩
    rw [← hB6] at e6 p1 p2 p3 p4
    rw [← hn] at B50 e6
    rw [← hW5] at w3
    have l5 := len_any w3.1
    rw [B50] at l5
    have y5 := lay_any w3.1 0 (n + 1) (by omega) (by omega)
    rw [e6, show ((n + 1 : Nat) : Int) = (n : Int) + 1 by omega] at y5
    have L5 := Lib.hid l5
    have Y5 := Lib.hid y5
    have T5 := Lib.hid (hT2.drew.trans' w3.2)
    have P5 := Lib.hid (show ∀ W, Ar W p g c B6 → Calls Try.prog 78 #[.pointer (some ⟨p, 0, none⟩), .string t] W fun e w' => e = .returned (.agg #[.int .i64 ((a1.low - t.size : Nat) : Int), .int .i64 (t.size : Int)]) ∧ (Ar w' p g c (standB B6 t.data.toList) ∧ Touch (both p g) W w') from fun W hh => by
      have := stand_any hh t (by omega) (by omega)
      rw [p2] at this
      exact this)
    have P6 := Lib.hid (show ∀ W, Ar W p g c (standB B6 t.data.toList) → Calls Try.prog 77 #[.pointer (some ⟨p, 0, none⟩), .int .i64 (k : Int), .agg #[.int .i64 ((a1.low - t.size : Nat) : Int), .int .i64 (t.size : Int)]] W fun e w' => e = .returned (.tuple #[]) ∧ (Area w' p g c (a1.putAt k t.data.toList) ∧ Touch (both p g) W w') from fun W hh => by
      have := point_any hh k (by omega) (a1.low - t.size) t.size (by omega) (by omega)
      exact this.mono fun _ _ ⟨x1, x2, x3⟩ => ⟨x1, ⟨⟨_, x2, p1⟩, putAt_ok hk1 (by omega) (by rw [htl]; omega)⟩, x3⟩)
    have HW5 := Lib.hid hW5
    clear p1 p2 p3 p4 e6 hpl B5l B50 w3 hn hB6 l5 y5 hT2 I2 hk1 r1 r2 r3 r4 r5 r6 r7 hi hfin hlow hn40 hlen htl hfd hP0 hP1 hF q0 q1 q2 A2 hW5
    generalize ((a1.low - t.size : Nat) : Int) = z1 at *
    go_wp2_with fail
    (refine wp_region_still_tail 17 (by kernel_rfl) (by kernel_rfl) (still_of_quiet _ _ ?_); simp only [List.take_succ_cons, List.take_zero, List.drop_succ_cons, List.drop_zero]; (repeat (first | go_big_quiet_skip | (go_big_quiet_want; go_big_quiet_op; first | go_big_quiet_on | (apply Exists.intro; refine ⟨?_, ?_⟩; (first | (go_at_call 75; exact quiet_one Q0.out) | (go_at_call 75; exact quiet_one Q1.out) | (go_at_call 76; exact quiet_one Q2.out)); go_big_quiet_on)))); refine wpQuiet_nil ?_)
    change wpList _ _ _ _ _ wc.drew
    refine wpList_copy_move RW.out rfl _ _ rfl P1 P0 F hPF hFb hP1b hcap rfl rfl ?_
    rw [← HW5.out]
    clear Q0 Q1 Q2 RW HW5 sl1 sl2
    go_wp2_with fail
    refine L5.out.mono ?_
    rintro e w' ⟨rfl, rfl⟩
    go_wp2_with fail
    refine Y5.out.mono ?_
    rintro e w6 ⟨rfl, h6⟩
    have P7 := Lib.hid (P5.out w6 h6.1)
    have T6 := Lib.hid (T5.out.trans' h6.2)
    clear h6 T5 Y5 L5 P5
    go_wp2_with fail
    refine P7.out.mono ?_
    rintro e w7 ⟨rfl, h7⟩
    have P8 := Lib.hid (P6.out w7 h7.1)
    have T7 := Lib.hid (T6.out.trans' h7.2)
    clear h7 T6 P7 P6
    go_wp2_with fail
    refine P8.out.mono ?_
    rintro e w8 ⟨rfl, h8⟩
    have T8 := Lib.hid (T7.out.trans' h8.2)
    have A8 := Lib.hid h8.1
    clear h8 T7 P8
    go_wp2_with fail
    go_ret
    exact ⟨rfl, A8.out, T8.out⟩
end

end Go.Proofs.Ytmandeohbiagfaa.Slot

namespace Go.Proofs.Ytmandeohbiagfaa.Slot
open Go.RowKit
attribute [local go_sem ↓] Go.wp_at_zero Go.wp_at_succ

theorem wrap_sub {x y : Int} (h1 : 0 ≤ x) (h2 : x ≤ 281474976710656) (h3 : 0 ≤ y) (h4 : y ≤ 100000) : IntKind.i64.wrap (x - y) = x - y := IntWalk.i64_in _ (by omega)
/-- the cells of a place that was read -/
structure NRow (n x y : Nat) (w : World) : Prop where
  row : w.heap[n]? = some (.cells #[.int .i64 (x : Int), .int .i64 (y : Int)] 99 (0, 0))
theorem NRow.gives {n x y : Nat} {w : World} (h : NRow n x y w) : w.cell? ⟨n, 0, none⟩ = some (.int .i64 (x : Int)) ∧ w.cell? ⟨n, 1, none⟩ = some (.int .i64 (y : Int)) :=
  ⟨by rw [cell_of_row _ _ _ _ _ _ h.row]; rfl, by rw [cell_of_row _ _ _ _ _ _ h.row]; rfl⟩
theorem NRow.later {n x y : Nat} {w w' : World} (h : NRow n x y w) (t : Below w.heap.size w w') : NRow n x y w' :=
  ⟨(t.block n (Array.getElem?_eq_some_iff.1 h.row).1).trans h.row⟩
theorem NRow.touch {n x y : Nat} {w w' : World} {G : Nat → Prop} (h : NRow n x y w) (t : Touch G w w') (hn : ¬ G n) : NRow n x y w' :=
  ⟨(t.block n (Array.getElem?_eq_some_iff.1 h.row).1 hn).trans h.row⟩

section
variable {w : World} {p g c : Nat} {a : A}
theorem put_is (h : Area w p g c a) (i : Int) (t : ByteArray) (ht : t.size ≤ 281474976710656) :
    Calls Try.prog 44 #[.pointer (some ⟨p, 0, none⟩), .int .i64 i, .string t] w fun e w' => e = .returned (.int .i64 (putE a i t.data.toList)) ∧ (Area w' p g c (putA a i t.data.toList) ∧ Touch (both p g) w w') := by
  have htl : t.data.toList.length = t.size := rfl
  unfold putA putE
  rw [htl]
  by_cases h1 : i < 0 ∨ (a.dir.length : Int) < i
  · rw [if_pos h1, if_neg (by simp)]
    exact (put_arg h i t ht h1).mono fun _ _ ⟨x1, x2⟩ => ⟨x1, x2 ▸ h, x2 ▸ Touch.refl _ _⟩
  · rw [if_neg h1]
    by_cases h2 : a.free < t.size + 4
    · rw [if_pos h2, if_neg (by simp)]
      exact (put_full h i t ht (by omega) h2).mono fun _ _ ⟨x1, x2⟩ => ⟨x1, h.later x2, Touch.ofNew x2⟩
    · rw [if_neg h2, if_pos rfl]
      obtain ⟨k, rfl⟩ : ∃ k : Nat, i = k := ⟨i.toNat, by omega⟩
      exact put_room h k t (by omega) (by omega)
end

end Go.Proofs.Ytmandeohbiagfaa.Slot

namespace Go.Proofs.Ytmandeohbiagfaa.Slot
open Go.RowKit
attribute [local go_sem ↓] Go.wp_at_zero Go.wp_at_succ

theorem bytes_is {w : World} {p g c : Nat} {a : A} (h : Area w p g c a) : Calls Try.prog 45 #[.pointer (some ⟨p, 0, none⟩)] w fun e w' => e = .returned (.string (strB (imgA a))) ∧ w = w' := by
  obtain ⟨⟨b, h1, h2⟩, h3⟩ := h
  have := bytes_any h1
  rwa [is_img h3 h2] at this

/-- an area of the call's own, made since W0 -/
structure St (W0 w : World) (p g c : Nat) (a : A) : Prop where
  area : Area w p g c a
  below : Below W0.heap.size W0 w
  own : W0.heap.size ≤ p ∧ W0.heap.size ≤ g
theorem St.op {W0 w w' : World} {p g c : Nat} {a a' : A} (h : St W0 w p g c a) (k : Area w' p g c a' ∧ Touch (both p g) w w') : St W0 w' p g c a' :=
  ⟨k.1, h.below.trans (k.2.below h.below.size (by rintro x (rfl | rfl); exact h.own.1; exact h.own.2)), h.own⟩
theorem St.later {W0 w w' : World} {p g c : Nat} {a : A} (h : St W0 w p g c a) (t : Below w.heap.size w w') : St W0 w' p g c a :=
  ⟨h.area.later t, h.below.trans (t.mono h.below.size), h.own⟩
theorem St.new {w w' : World} {n : Nat} (h : newA w w' n) : St w w' (w.heap.size + 1) w.heap.size n (A.new n) := ⟨h.1, h.2, by omega, by omega⟩

end Go.Proofs.Ytmandeohbiagfaa.Slot

namespace Go.Proofs.Ytmandeohbiagfaa.Page
open Go.RowKit
attribute [local go_sem ↓] Go.wp_at_zero Go.wp_at_succ

/-- v is a slice of these texts -/
def Rows (w : World) (v : Value) (l : List ByteArray) : Prop :=
  ∃ ad c, v = .slice ad l.length c ∧ (l = [] ∨ ∃ b o, ad = some ⟨b, o, none⟩ ∧ b < w.heap.size ∧ ∀ j, j < l.length → w.cell? ⟨b, o + j, none⟩ = some (.string (nth l j)))
theorem Rows.far {w w' : World} {v : Value} {l : List ByteArray} (h : Rows w v l) (hs : w.heap.size ≤ w'.heap.size) (t : ∀ b, b < w.heap.size → w'.heap[b]? = w.heap[b]?) : Rows w' v l := by
  obtain ⟨ad, c, hv, h1⟩ := h
  refine ⟨ad, c, hv, h1.imp id ?_⟩
  rintro ⟨b, o, ha, hb, hc⟩
  refine ⟨b, o, ha, Nat.lt_of_lt_of_le hb hs, fun j hj => ?_⟩
  rw [World.cell?_of_block (t b hb)]
  exact hc j hj
theorem Rows.later {w w' : World} {v : Value} {l : List ByteArray} (h : Rows w v l) (t : Below w.heap.size w w') : Rows w' v l := h.far t.size t.block
theorem Rows.alloc {w : World} {v : Value} {l : List ByteArray} (h : Rows w v l) (o : Obj) : Rows (w.alloc o) v l := h.later ((Below.refl _ _).alloc (Nat.le_refl _) o)
theorem Rows.nil (w : World) (ad : Option Addr) (c : Nat) : Rows w (.slice ad 0 c) [] := ⟨ad, c, rfl, .inl rfl⟩
theorem Rows.at {w : World} {ad : Option Addr} {c : Nat} {l : List ByteArray} (h : Rows w (.slice ad l.length c) l) {k : Nat} (hk : k < l.length) :
    ∃ b o, ad = some ⟨b, o, none⟩ ∧ b < w.heap.size ∧ w.cell? ⟨b, o + k, none⟩ = some (.string (nth l k)) := by
  obtain ⟨ad', c', hv, h1⟩ := h
  simp only [Value.slice.injEq] at hv
  obtain ⟨rfl, _, rfl⟩ := hv
  rcases h1 with rfl | ⟨b, o, ha, hb, hc⟩
  · simp at hk
  · exact ⟨b, o, ha, hb, hc k hk⟩

/-- a page as a value -/
def pgV (p : Pg) (v : Value) : Value := .agg #[.int .u8 (p.kind : Int), .int .u8 (p.level : Int), .int .u32 (p.id : Int), .int .u64 (p.lsn : Int), .int .u32 (p.next : Int), v]

theorem left_step {l : List ByteArray} {k : Nat} (hk : k < l.length) (hu : used l ≤ 1000000) : (nth l k).size ≤ 1000000 ∧ used (l.take (k + 1)) = used (l.take k) + (4 + (nth l k).size) ∧ used (l.take (k + 1)) ≤ used l := by
  have := nth_size hk
  exact ⟨by omega, used_take hk, used_take_le _ _⟩

set_option maxRecDepth 100000 in
set_option maxHeartbeats 1000000 in
theorem left_any {w : World} {v : Value} {l : List ByteArray} (h : Rows w v l) (hu : used l ≤ 1000000) : Calls Try.prog 30 #[v] w fun e w' => e = .returned (.int .i64 (leftI l)) ∧ w = w' := by
  obtain ⟨ad, c, rfl, _⟩ := id h
  have hlen := used_len l
  have H := Lib.hid h
  obtain ⟨n, hn⟩ : ∃ n, n = l.length := ⟨_, rfl⟩
  have N := Lib.hid hn
  have hn2 : n ≤ 1000000 := by omega
  have U := Lib.hid hu
  rw [← hn]
  clear h hu hlen hn
  go_enter Try.func30, Try.ntmps30
  go_wp2_with fail
  go_loop [3, 8] (fun x i => ∃ k m : Nat, k ≤ n ∧ m ≤ 484 ∧ m + used (l.take k) = 484 ∧ x = .int .i64 m ∧ i = .int .i64 k) (fun _ i => n - (intOf i).toNat)
  case atStart => exact ⟨0, 484, by omega, by omega, by rw [List.take_zero, used_nil], by go_num, by go_num⟩
  case round =>
    obtain ⟨k, m, hk, hm, hs, rfl, rfl⟩ := hrel
    by_cases hlt : k < n
    · obtain ⟨b, o, rfl, hb, hc⟩ := H.out.at (k := k) (by rw [← N.out]; exact hlt)
      obtain ⟨t1, t2, t3⟩ := left_step (l := l) (k := k) (by rw [← N.out]; exact hlt) U.out
      obtain ⟨s, hs2⟩ : ∃ s, s = nth l k := ⟨_, rfl⟩
      rw [← hs2] at hc t1 t2
      by_cases hx : m < 4 + s.size
      · have e : leftI l = -1 := by unfold leftI; rw [if_neg (by omega)]
        have E := Lib.hid e
        have X : decide ((m : Int) - (4 + (s.size : Int)) < 0) = true := decide_eq_true (by omega)
        clear hs t2 t3 hs2 e
        go_wp2_with fail
        go_ret
        exact ⟨by rw [E.out]; rfl, rfl⟩
      · obtain ⟨m2, hm2⟩ : ∃ m2 : Nat, m2 + (4 + s.size) = m := ⟨m - (4 + s.size), by omega⟩
        have X : decide ((m : Int) - (4 + (s.size : Int)) < 0) = false := decide_eq_false (by omega)
        have Y : ((m : Int) - (4 + (s.size : Int))) = (m2 : Int) := by omega
        have Z := Lib.hid (show m2 + used (l.take (k + 1)) = 484 by omega)
        clear hs t2 t3 hs2
        go_wp2_with fail
        go_round
        case rel => exact ⟨k + 1, m2, by omega, by omega, Z.out, by go_num, by go_num⟩
        case measure => simp [intOf]; omega
    · obtain rfl : k = n := by omega
      have e : leftI l = (m : Int) := by
        have e1 : l.take k = l := List.take_of_length_le (by rw [← N.out]; omega)
        rw [e1] at hs
        unfold leftI; rw [if_pos (by omega)]; omega
      have E := Lib.hid e
      clear hs e
      go_wp2_with fail
      go_ret
      exact ⟨by rw [E.out]; rfl, rfl⟩

end Go.Proofs.Ytmandeohbiagfaa.Page

namespace Go.Proofs.Ytmandeohbiagfaa.Slot
open Go.RowKit
attribute [local go_sem ↓] Go.wp_at_zero Go.wp_at_succ

/-- '[]byte(s)' -/
theorem bytes_row (s : ByteArray) (w : World) : ∃ (cap : Nat) (W1 : World), (convert 9 45 (.string s)).run Try.prog w = .ok (.slice (some ⟨w.heap.size, 0, none⟩) s.size cap) W1 ∧ Row W1 w.heap.size s.data.toList ∧ s.size ≤ cap ∧ Below w.heap.size w W1 ∧ W1.heap.size = w.heap.size + 1 := by
  have hl : s.data.toList.length = s.size := rfl
  have hz : s.size ≤ (bytesRow s (grownCap w s.size 0 5)).size := by unfold bytesRow; rw [Array.size_append, Array.size_map]; exact Nat.le_add_right _ _
  refine ⟨_, _, run_bytes_of_string w 9 45 5 s Try.underlying9 Try.underlying45 Try.underlying5, ⟨_, _, heap_alloc_new w.drew _, ?_, by rw [hl]; exact hz, .inr (by rw [hl]; exact hz)⟩, grownCap_ge _ _ _ _, ((Below.refl _ w).drew).alloc (Nat.le_refl _) _, by simp⟩
  apply List.ext_getElem?
  intro j
  rw [List.getElem?_take, hl]
  by_cases hj : j < s.size
  · have hj' : j < s.data.size := hj
    rw [if_pos hj, Array.getElem?_toList, bytesRow_at s _ j hj']
    unfold Lib.byteCells
    rw [List.getElem?_map, List.getElem?_eq_getElem (by rw [hl]; exact hj)]
    rfl
  · rw [if_neg hj, List.getElem?_eq_none (by rw [byteCells_len, hl]; omega)]

section
variable {w : World} {p g c : Nat} {b : List UInt8}
def framedB (b : List UInt8) : Bool := decide (4 + 4 * numL b 0 ≤ numL b 2 ∧ numL b 2 ≤ b.length)
set_option maxRecDepth 100000 in
set_option maxHeartbeats 2000000 in
theorem framed_any (h : Ar w p g c b) : Calls Try.prog 82 #[.pointer (some ⟨p, 0, none⟩)] w fun e w' => e = .returned (.bool (framedB b)) ∧ Below w.heap.size w w' := by
  have c0 := h.cell0
  have en := Lib.hid (fun W (t : Below w.heap.size w W) => end_any (h.later t))
  have lo := Lib.hid (fun W (t : Below w.heap.size w W) => low_any (h.later t))
  unfold framedB
  obtain ⟨F, hF⟩ : ∃ F, F = 4 + 4 * numL b 0 := ⟨_, rfl⟩
  obtain ⟨L, hL⟩ : ∃ L, L = numL b 2 := ⟨_, rfl⟩
  rw [← hF] at en ⊢
  rw [← hL] at lo ⊢
  clear hF hL h
  by_cases h1 : F ≤ L
  · have e1 : decide ((F : Int) ≤ (L : Int)) = true := decide_eq_true (by omega)
    have e2 : decide (F ≤ L) = true := decide_eq_true h1
    by_cases h2 : L ≤ b.length
    · have e3 : decide ((L : Int) ≤ (b.length : Int)) = true := decide_eq_true (by omega)
      have e4 : decide (L ≤ b.length) = true := decide_eq_true h2
      rw [show decide (F ≤ L ∧ L ≤ b.length) = true from decide_eq_true ⟨h1, h2⟩]
      clear h1 h2
      go_enter Try.func82, Try.ntmps82
      go_wp2_with fail
      go_quiet ((first | (go_at_call 76; first | exact quiet_same (en.out _ (below_drewN (Below.refl _ _) _)) | exact quiet_same0 (en.out _ (Below.refl _ _))) | (go_at_call 91; first | exact quiet_same (lo.out _ (below_drewN (Below.refl _ _) _)) | exact quiet_same0 (lo.out _ (Below.refl _ _)))))
      go_wp2_with fail
      go_ret
      exact ⟨rfl, below_drewN (Below.refl _ _) _⟩
    · have e3 : decide ((L : Int) ≤ (b.length : Int)) = false := decide_eq_false (by omega)
      have e4 : decide (L ≤ b.length) = false := decide_eq_false h2
      rw [show decide (F ≤ L ∧ L ≤ b.length) = false from decide_eq_false (fun h => h2 h.2)]
      clear h1 h2
      go_enter Try.func82, Try.ntmps82
      go_wp2_with fail
      go_quiet ((first | (go_at_call 76; first | exact quiet_same (en.out _ (below_drewN (Below.refl _ _) _)) | exact quiet_same0 (en.out _ (Below.refl _ _))) | (go_at_call 91; first | exact quiet_same (lo.out _ (below_drewN (Below.refl _ _) _)) | exact quiet_same0 (lo.out _ (Below.refl _ _)))))
      go_wp2_with fail
      go_ret
      exact ⟨rfl, below_drewN (Below.refl _ _) _⟩
  · have e1 : decide ((F : Int) ≤ (L : Int)) = false := decide_eq_false (by omega)
    have e2 : decide (F ≤ L) = false := decide_eq_false h1
    rw [show decide (F ≤ L ∧ L ≤ b.length) = false from decide_eq_false (fun h => h1 h.1)]
    clear h1
    go_enter Try.func82, Try.ntmps82
    go_wp2_with fail
    go_quiet ((first | (go_at_call 76; first | exact quiet_same (en.out _ (below_drewN (Below.refl _ _) _)) | exact quiet_same0 (en.out _ (Below.refl _ _))) | (go_at_call 91; first | exact quiet_same (lo.out _ (below_drewN (Below.refl _ _) _)) | exact quiet_same0 (lo.out _ (Below.refl _ _)))))
    go_wp2_with fail
    go_ret
    exact ⟨rfl, below_drewN (Below.refl _ _) _⟩

/-- is each text within? -/
def Within (b : List UInt8) : Prop := ∀ i, i < numL b 0 → numL b 2 ≤ (spotB b i).1 ∧ (spotB b i).1 + (spotB b i).2 ≤ b.length
def WithinPost (b : List UInt8) (w : World) (e : Ending) (w' : World) : Prop := ∃ z : Bool, e = .returned (.bool z) ∧ (z = true ↔ Within b) ∧ Below w.heap.size w w'
set_option maxRecDepth 100000 in
set_option maxHeartbeats 4000000 in
theorem within_any (h : Ar w p g c b) (hf : 4 + 4 * numL b 0 ≤ b.length) : Calls Try.prog 83 #[.pointer (some ⟨p, 0, none⟩)] w (WithinPost b w) := by
  have hhi := h.hi
  have ln := len_any h
  have lo := Lib.hid (fun W (t : Below w.heap.size w W) => low_any (h.later t))
  have sp := Lib.hid (fun W (t : Below w.heap.size w W) (i : Nat) (hi : 8 + 4 * i ≤ b.length) => spot_any (h.later t) i hi)
  have HA := Lib.hid h
  have se := Lib.hid (fun (x y : Nat) (W : World) (hx : x < 65536) (hy : y < 65536) => spot_end x y W (by omega) (by omega))
  have HP : ∀ z w', (z = true ↔ Within b) → Below w.heap.size w w' → WithinPost b w (.returned (.bool z)) w' := fun z w' h1 h2 => ⟨z, rfl, h1, h2⟩
  have HPH := Lib.hid HP
  obtain ⟨n, hn⟩ : ∃ n, n = numL b 0 := ⟨_, rfl⟩
  have HN := Lib.hid hn
  rw [← hn] at ln hf
  have LN := Lib.hid ln
  have hn1 : (n : Int) ≤ 1100 := by omega
  clear hn h ln HP
  go_enter Try.func83, Try.ntmps83
  go_wp2_with fail
  refine LN.out.mono ?_
  rintro e w' ⟨rfl, rfl⟩
  clear LN
  go_wp2_with fail
  go_loopw [7] (fun i wr => ∃ k : Nat, k ≤ n ∧ i = .int .i64 k ∧ Below w.heap.size w wr ∧ ∀ j, j < k → numL b 2 ≤ (spotB b j).1 ∧ (spotB b j).1 + (spotB b j).2 ≤ b.length) (fun i _ => n - (intOf i).toNat)
  case atStart => exact ⟨0, by omega, by go_num, Below.refl _ _, fun j hj => by omega⟩
  case round =>
    obtain ⟨k, hk, rfl, hb, hw⟩ := hrel
    have HB := Lib.hid hb
    have HW := Lib.hid hw
    clear hb hw
    by_cases hlt : k < n
    · have sk := sp.out _ HB.out k (by omega)
      unfold spotV spotAt at sk
      simp only at sk
      have x65 := num_lt b (4 + 4 * k)
      have y65 := num_lt b (6 + 4 * k)
      have hs : spotB b k = (numL b (4 + 4 * k), numL b (6 + 4 * k)) := rfl
      obtain ⟨x, ex⟩ : ∃ x, x = numL b (4 + 4 * k) := ⟨_, rfl⟩
      obtain ⟨y, ey⟩ : ∃ y, y = numL b (6 + 4 * k) := ⟨_, rfl⟩
      obtain ⟨L, hL⟩ : ∃ L, L = numL b 2 := ⟨_, rfl⟩
      rw [← ex, ← ey] at sk hs
      rw [← ex] at x65
      rw [← ey] at y65
      have HL := Lib.hid hL
      have HS := Lib.hid hs
      have SK := Lib.hid sk
      clear sk ex ey hL hs
      obtain ⟨z, hz⟩ : ∃ z : Int, z = ((x + y : Nat) : Int) := ⟨_, rfl⟩
      have se2 : ∀ W : World, Calls Try.prog 88 #[.agg #[.int .i64 (x : Int), .int .i64 (y : Int)]] W fun e w' => e = .returned (.int .i64 z) ∧ Below W.heap.size W w' := fun W => by rw [hz]; exact se.out x y W x65 y65
      have SE := Lib.hid se2
      have lo2 := fun W (t : Below w.heap.size w W) => lo.out W t
      rw [← HL.out] at lo2
      have LO := Lib.hid lo2
      clear se2 lo2
      have hcase : ∃ z1 z2 : Bool, decide ((x : Int) < (L : Int)) = z1 ∧ decide (x < L) = z1 ∧ decide ((b.length : Int) < z) = z2 := ⟨decide (x < L), _, by rw [decide_eq_decide]; omega, rfl, rfl⟩
      obtain ⟨z1, z2, d1, d2, d3⟩ := hcase
      have hz1 : z1 = true ↔ x < L := by rw [← d2]; simp
      have hz2 : z2 = true ↔ b.length < x + y := by rw [← d3]; simp; omega
      have HZ1 := Lib.hid hz1
      have HZ2 := Lib.hid hz2
      clear hz1 hz2 hz
      cases z1
      case true =>
        go_wp2_with fail
        refine SK.out.mono ?_
        rintro e w1 ⟨rfl, b1⟩
        have b2 : Below w.heap.size w (w1.alloc (.cells #[.int .i64 (x : Int), .int .i64 (y : Int)] 99)) := (HB.out.trans (b1.mono HB.out.size)).alloc (Nat.le_trans HB.out.size b1.size) _
        obtain ⟨W, hW⟩ : ∃ W, W = w1.alloc (.cells #[.int .i64 (x : Int), .int .i64 (y : Int)] 99) := ⟨_, rfl⟩
        have rn : NRow w1.heap.size x y W := ⟨by rw [hW]; exact heap_alloc_new _ _⟩
        rw [← hW] at b2
        have A2 := HA.out.later b2
        have c2 := A2.cell0
        have HW2 := Lib.hid hW
        have B2 := Lib.hid b2
        have RN := Lib.hid rn
        have g0 := rn.gives.1
        have g1 := rn.gives.2
        clear b1 b2 hW rn A2 SK
        go_wp2_with (rw [← HW2.out])
        go_quiet ((go_at_call 91; first | exact quiet_same (LO.out _ (below_drewN B2.out _)) | exact quiet_same0 (LO.out _ B2.out)))
        go_wp2_with fail
        go_ret
        exact HPH.out _ _ ⟨fun h => by simp at h, fun h => by
          have h1 := (h k (by rw [← HN.out]; exact hlt)).1
          rw [HS.out, ← HL.out] at h1
          have h2 : x < L := by simpa using HZ1.out
          simp only at h1
          omega⟩ (below_drewN B2.out _)
      case false =>
        go_wp2_with fail
        refine SK.out.mono ?_
        rintro e w1 ⟨rfl, b1⟩
        have b2 : Below w.heap.size w (w1.alloc (.cells #[.int .i64 (x : Int), .int .i64 (y : Int)] 99)) := (HB.out.trans (b1.mono HB.out.size)).alloc (Nat.le_trans HB.out.size b1.size) _
        obtain ⟨W, hW⟩ : ∃ W, W = w1.alloc (.cells #[.int .i64 (x : Int), .int .i64 (y : Int)] 99) := ⟨_, rfl⟩
        have rn : NRow w1.heap.size x y W := ⟨by rw [hW]; exact heap_alloc_new _ _⟩
        rw [← hW] at b2
        have A2 := HA.out.later b2
        have c2 := A2.cell0
        have HW2 := Lib.hid hW
        have B2 := Lib.hid b2
        have RN := Lib.hid rn
        have HA2 := Lib.hid A2
        have g0 := rn.gives.1
        have g1 := rn.gives.2
        clear b1 b2 hW rn A2 SK
        go_wp2_with (rw [← HW2.out])
        clear HW2
        go_region_held3 (fun w' => w'.cell? ⟨w1.heap.size, 0, none⟩ = some (.int .i64 (x : Int)) ∧ w'.cell? ⟨w1.heap.size, 1, none⟩ = some (.int .i64 (y : Int)) ∧ w'.cell? ⟨p, 0, none⟩ = some (.slice (some ⟨g, 0, none⟩) b.length c))
          (first | exact ⟨(RN.out.later ((Below.refl _ _).drew)).gives.1, (RN.out.later ((Below.refl _ _).drew)).gives.2, (HA2.out.later ((Below.refl _ _).drew)).cell0⟩ | exact ⟨((RN.out.later ((Below.refl _ _).drew)).later hb).gives.1, ((RN.out.later ((Below.refl _ _).drew)).later hb).gives.2, ((HA2.out.later ((Below.refl _ _).drew)).later hb).cell0⟩)
          (first | (go_at_call 91; refine Calls.mono (LO.out _ B2.out.drew) ?_; rintro e w' ⟨rfl, rfl⟩) | (go_at_call 88; refine Calls.mono (SE.out _) ?_; rintro e w' ⟨rfl, hb⟩))
        have B3 := Lib.hid (B2.out.drew.trans (hb.mono B2.out.drew.size))
        clear hb c2 g0 g1 RN HA2
        cases z2
        case true =>
          go_wp2_with fail
          go_ret
          exact HPH.out _ _ ⟨fun h => by simp at h, fun h => by
            have h1 := (h k (by rw [← HN.out]; exact hlt)).2
            rw [HS.out] at h1
            have h2 : b.length < x + y := by simpa using HZ2.out
            simp only at h1
            omega⟩ B3.out
        case false =>
          go_wp2_with fail
          go_roundw
          case rel =>
            refine ⟨k + 1, by omega, by go_num, B3.out, fun j hj => ?_⟩
            by_cases e : j = k
            · subst e
              rw [HS.out, ← HL.out]
              have h1 := HZ1.out
              have h2 := HZ2.out
              simp at h1 h2
              simp only
              omega
            · exact HW.out j (by omega)
          case measure => simp [intOf]; omega
    · obtain rfl : k = n := by omega
      go_wp2_with fail
      go_ret
      exact HPH.out _ _ ⟨fun _ i hi => HW.out i (by rw [HN.out]; exact hi), fun _ => rfl⟩ HB.out
end

end Go.Proofs.Ytmandeohbiagfaa.Slot

namespace Go.Proofs.Ytmandeohbiagfaa.Slot
open Go.RowKit
attribute [local go_sem ↓] Go.wp_at_zero Go.wp_at_succ

/-- an array of 4096 truths -/
def rowB (f : Nat → Bool) : Array Value := ((List.range 4096).map fun j => Value.bool (f j)).toArray
def rowN : Array Value := rowB fun _ => false
theorem rowB_size (f : Nat → Bool) : (rowB f).size = 4096 := by
  unfold rowB
  rw [List.size_toArray, List.length_map, List.length_range]
theorem rowB_get (f : Nat → Bool) {j : Nat} (h : j < 4096) : (rowB f)[j]? = some (.bool (f j)) := by
  unfold rowB
  rw [List.getElem?_toArray, List.getElem?_map, List.getElem?_range h]
  rfl
theorem rowB_ext {f g : Nat → Bool} (h : ∀ j, j < 4096 → f j = g j) : rowB f = rowB g := by
  have e : (List.range 4096).map (fun j => Value.bool (f j)) = (List.range 4096).map (fun j => Value.bool (g j)) := List.map_congr_left fun j hj => by rw [h j (List.mem_range.1 hj)]
  unfold rowB
  rw [e]
theorem rowB_set (f : Nat → Bool) (i : Nat) : (rowB f).setIfInBounds i (.bool true) = rowB (fun j => if j = i then true else f j) := by
  apply Array.ext_getElem?
  intro j
  rw [Array.getElem?_setIfInBounds]
  by_cases hj : j < 4096
  · rw [rowB_get _ hj, rowB_get _ hj, rowB_size]
    by_cases e : i = j
    · subst e; rw [if_pos rfl, if_pos hj, if_pos rfl]
    · rw [if_neg e, if_neg (fun h => e h.symm)]
  · have h1 : (rowB f)[j]? = none := by rw [Array.getElem?_eq_none]; rw [rowB_size]; omega
    have h2 : (rowB (fun j => if j = i then true else f j))[j]? = none := by rw [Array.getElem?_eq_none]; rw [rowB_size]; omega
    rw [h1, h2, rowB_size]
    by_cases e : i = j
    · rw [if_pos e, if_neg (by omega)]
    · rw [if_neg e]
set_option maxRecDepth 100000 in
theorem zeroT (w : World) : (zeroValue 108).run Try.prog w = .ok (.agg rowN) w := by kernel_rfl
theorem allocT (w : World) : (Instr.alloc 108 true (.tuple #[])).run Try.prog w = .ok (.pointer (some ⟨w.heap.size, 0, none⟩)) (w.alloc (.cells rowN 108 (0, 0))) := by
  simp only [Instr.alloc, Sem.run_bind, zeroT]
  rfl

/-- block t has these marks; below W0 nothing was touched -/
structure Mk (W0 : World) (t : Nat) (f : Nat → Bool) (w : World) : Prop where
  row : w.heap[t]? = some (.cells (rowB f) 108 (0, 0))
  below : Below W0.heap.size W0 w
  new : W0.heap.size ≤ t
theorem Mk.start (w : World) : Mk w w.heap.size (fun _ => false) (w.alloc (.cells rowN 108 (0, 0))) :=
  ⟨heap_alloc_new _ _, (Below.refl _ _).alloc (Nat.le_refl _) _, Nat.le_refl _⟩
theorem Mk.cell {W0 w : World} {t : Nat} {f : Nat → Bool} (h : Mk W0 t f w) {j : Nat} (hj : j < 4096) : w.cell? ⟨t, j, none⟩ = some (.bool (f j)) := by
  rw [cell_of_row w t j _ _ _ h.row, rowB_get _ hj]
theorem Mk.free {W0 w : World} {t : Nat} {f : Nat → Bool} (h : Mk W0 t f w) (j : Nat) : w.frozen? ⟨t, j, none⟩ = false := frozen_of_row w t j _ _ h.row
theorem Mk.lt {W0 w : World} {t : Nat} {f : Nat → Bool} (h : Mk W0 t f w) : t < w.heap.size := (Array.getElem?_eq_some_iff.1 h.row).1
theorem Mk.later {W0 w w' : World} {t : Nat} {f : Nat → Bool} (h : Mk W0 t f w) (b : Below w.heap.size w w') : Mk W0 t f w' :=
  ⟨(b.block t h.lt).trans h.row, h.below.trans (b.mono h.below.size), h.new⟩
theorem Mk.set {W0 w : World} {t : Nat} {f : Nat → Bool} (h : Mk W0 t f w) (i : Nat) : Mk W0 t (fun j => if j = i then true else f j) (w.setCell ⟨t, i, none⟩ (.bool true)) := by
  refine ⟨?_, h.below.setCell h.new _, h.new⟩
  rw [heap_setCell_same w _ i _ _ _ h.row, rowB_set]
theorem Mk.congr {W0 w : World} {t : Nat} {f f' : Nat → Bool} (h : Mk W0 t f w) (e : ∀ j, j < 4096 → f j = f' j) : Mk W0 t f' w :=
  ⟨by rw [← rowB_ext e]; exact h.row, h.below, h.new⟩

def ApartPost (b : List UInt8) (w : World) (e : Ending) (w' : World) : Prop := ∃ z : Bool, e = .returned (.bool z) ∧ (z = true ↔ Apart (dirOf b)) ∧ Below w.heap.size w w'

section
variable {w : World} {p g c : Nat} {b : List UInt8}
set_option maxRecDepth 100000 in
set_option maxHeartbeats 4000000 in
theorem apart_any (h : Ar w p g c b) (hf : 4 + 4 * numL b 0 ≤ b.length) (hw : Within b) : Calls Try.prog 84 #[.pointer (some ⟨p, 0, none⟩)] w (ApartPost b w) := by
  have hhi := h.hi
  have z := zeroT
  have al := allocT
  have ln := fun W (t : Below w.heap.size w W) => len_any (h.later t)
  have sp := Lib.hid (fun W (t : Below w.heap.size w W) (i : Nat) (hi : 8 + 4 * i ≤ b.length) => spot_any (h.later t) i hi)
  have se := Lib.hid (fun (x y : Nat) (W : World) (hx : x < 65536) (hy : y < 65536) => spot_end x y W (by omega) (by omega))
  have HP : ∀ z w', (z = true ↔ Apart (dirOf b)) → Below w.heap.size w w' → ApartPost b w (.returned (.bool z)) w' := fun z w' h1 h2 => ⟨z, rfl, h1, h2⟩
  have HPH := Lib.hid HP
  obtain ⟨l, hl⟩ : ∃ l, l = dirOf b := ⟨_, rfl⟩
  have hll : l.length = numL b 0 := by rw [hl, dirOf_len]
  have HL := Lib.hid hl
  obtain ⟨n, hn⟩ : ∃ n, n = numL b 0 := ⟨_, rfl⟩
  have HN := Lib.hid hn
  have HW := Lib.hid hw
  rw [← hn] at ln hf hll
  have HLL := Lib.hid hll
  have LN := Lib.hid ln
  have hn1 : (n : Int) ≤ 1100 := by omega
  have M0 := Lib.hid (Mk.start w)
  clear hn h ln HP hw hl hll
  go_enter Try.func84, Try.ntmps84
  go_wp2_with fail
  go_step3
  go_wp2_with fail
  go_step3
  go_wp2_with fail
  refine (LN.out _ M0.out.below).mono ?_
  rintro e w' ⟨rfl, rfl⟩
  clear LN
  go_wp2_with fail
  go_loopw [4, 10] (fun v i wr => ∃ k : Nat, k ≤ n ∧ i = .int .i64 k ∧ v = .bool true ∧ Apart (l.take k) ∧ Mk w w.heap.size (marksOf (l.take k)) wr) (fun _ i _ => n - (intOf i).toNat)
  case atStart => exact ⟨0, by omega, by go_num, rfl, by rw [List.take_zero]; exact apart_nil, M0.out⟩
  case round =>
    obtain ⟨k, hk, rfl, rfl, hap, hm⟩ := hrel
    have HAP := Lib.hid hap
    have HM := Lib.hid hm
    clear hap hm M0 z al
    by_cases hlt : k < n
    · have sk := sp.out _ HM.out.below k (by omega)
      unfold spotV spotAt at sk
      simp only at sk
      have x65 := num_lt b (4 + 4 * k)
      have y65 := num_lt b (6 + 4 * k)
      have hwk := HW.out k (by rw [← HN.out]; exact hlt)
      have hs : l.getD k (0, 0) = (numL b (4 + 4 * k), numL b (6 + 4 * k)) := by rw [HL.out, dirOf_at (by rw [← HN.out]; exact hlt)]; rfl
      have hs2 : spotB b k = (numL b (4 + 4 * k), numL b (6 + 4 * k)) := rfl
      rw [hs2] at hwk
      obtain ⟨x, ex⟩ : ∃ x, x = numL b (4 + 4 * k) := ⟨_, rfl⟩
      obtain ⟨y, ey⟩ : ∃ y, y = numL b (6 + 4 * k) := ⟨_, rfl⟩
      rw [← ex, ← ey] at sk hs hwk
      rw [← ex] at x65
      rw [← ey] at y65
      have hxy : x + y ≤ 4096 := by have := hwk.2; simp only at this; omega
      have HS := Lib.hid hs
      have SK := Lib.hid sk
      clear sk ex ey hs hs2 hwk
      obtain ⟨z, hz⟩ : ∃ z : Int, z = ((x + y : Nat) : Int) := ⟨_, rfl⟩
      have se2 : ∀ W : World, Calls Try.prog 88 #[.agg #[.int .i64 (x : Int), .int .i64 (y : Int)]] W fun e w' => e = .returned (.int .i64 z) ∧ Below W.heap.size W w' := fun W => by rw [hz]; exact se.out x y W x65 y65
      have SE := Lib.hid se2
      have HZ := Lib.hid hz
      clear se2 hz
      obtain ⟨f, hf'⟩ : ∃ f, f = marksOf (l.take k) := ⟨_, rfl⟩
      have HF := Lib.hid hf'
      rw [← hf'] at HM
      clear hf'
      go_wp2_with fail
      refine SK.out.mono ?_
      rintro e w1 ⟨rfl, b1⟩
      obtain ⟨W, hW⟩ : ∃ W, W = w1.alloc (.cells #[.int .i64 (x : Int), .int .i64 (y : Int)] 99) := ⟨_, rfl⟩
      have rn : NRow w1.heap.size x y W := ⟨by rw [hW]; exact heap_alloc_new _ _⟩
      have b2 : Below wr.heap.size wr W := by rw [hW]; exact b1.alloc b1.size _
      have M2 := Lib.hid (HM.out.later b2)
      have HW2 := Lib.hid hW
      have RN := Lib.hid rn
      have g0 := rn.gives.1
      have g1 := rn.gives.2
      have hnt : w1.heap.size ≠ w.heap.size := fun e => by have := HM.out.lt; have := b1.size; omega
      have hnw : w1.heap.size < W.heap.size := by rw [hW]; simp
      clear b1 b2 hW rn SK HM
      go_wp2_with (rw [← HW2.out])
      clear HW2 g0 g1
      generalize w1.heap.size = nb at *
      obtain ⟨wo, ewo⟩ : ∃ wo : World, wo = wr := ⟨_, rfl⟩
      clear ewo
      go_loopw [4, 7] (fun v i wr => ∃ j : Nat, x ≤ j ∧ j ≤ x + y ∧ i = .int .i64 j ∧ v = .bool true ∧ Mk w w.heap.size (fun i => f i || decide (x ≤ i ∧ i < j)) wr ∧ NRow nb x y wr ∧ ∀ i, x ≤ i → i < j → f i = false) (fun _ i _ => (x + y) - (intOf i).toNat)
      case atStart => exact ⟨x, by omega, by omega, by go_num, rfl, M2.out.congr fun j _ => by rw [show decide (x ≤ j ∧ j < x) = false from decide_eq_false (by omega), Bool.or_false], RN.out, fun i h1 h2 => by omega⟩
      case round =>
        obtain ⟨j, hj1, hj2, rfl, rfl, hm, hr, hfr⟩ := hrel
        have g0 := hr.gives.1
        have g1 := hr.gives.2
        have HM := Lib.hid hm
        have HR := Lib.hid hr
        have HFR := Lib.hid hfr
        clear hm hr hfr M2 RN
        have z0 : (0 : Int) ≤ (j : Int) := Int.natCast_nonneg _
        by_cases hjl : j < x + y
        · have e1 : decide ((j : Int) < z) = true := decide_eq_true (by rw [HZ.out]; omega)
          have j4 : (j : Int) < 4096 := by omega
          go_wp2_with fail
          refine (SE.out _).mono ?_
          rintro e w2 ⟨rfl, b2⟩
          have M3 := HM.out.later b2
          have R3 := Lib.hid (HR.out.later b2)
          have cf := M3.cell (j := j) (by omega)
          rw [show decide (x ≤ j ∧ j < j) = false from decide_eq_false (by omega), Bool.or_false] at cf
          have fz := M3.free j
          have S3 := Lib.hid (M3.set j)
          have HM3 := Lib.hid M3
          obtain ⟨v, hv⟩ : ∃ v, v = f j := ⟨_, rfl⟩
          rw [← hv] at cf
          have HV := Lib.hid hv
          clear b2 M3 HM HR g0 g1 hv
          cases v
          case true =>
            go_wp2_with fail
            rw [Exit.noGoto_ret]
            go_ret
            refine HPH.out _ _ ⟨fun h => by simp at h, fun h => ?_⟩ HM3.out.below
            obtain ⟨y', hy1, hy2⟩ := not_clear (l := l.take k) (x := (x, y)) (j := j) hj1 hjl (by rw [← HF.out]; exact HV.out.symm)
            rw [← HS.out] at hy2
            rw [← HL.out] at h
            exact absurd h (not_apart (by rw [HLL.out]; exact hlt) hy1 hy2)
          case false =>
            go_wp2_with fail
            go_roundw
            case rel =>
              refine ⟨j + 1, by omega, by omega, by go_num, rfl, S3.out.congr fun i _ => ?_, ⟨?_⟩, fun i h1 h2 => ?_⟩
              · by_cases e : i = j
                · subst e
                  rw [if_pos rfl, show decide (x ≤ i ∧ i < i + 1) = true from decide_eq_true (by omega), Bool.or_true]
                · rw [if_neg e]
                  congr 1
                  rw [decide_eq_decide]; omega
              · rw [heap_setCell_other _ _ _ _ (by simpa using hnt)]
                exact R3.out.row
              · by_cases e : i = j
                · subst e; exact HV.out.symm
                · exact HFR.out i h1 (by omega)
            case measure => simp [intOf]; omega
        · obtain rfl : j = x + y := by omega
          have e1 : decide (((x + y : Nat) : Int) < z) = false := decide_eq_false (by rw [HZ.out]; omega)
          have e2 : decide ((x : Int) + (y : Int) < z) = false := decide_eq_false (by rw [HZ.out]; omega)
          have hcl := clear_of_marks (l := l.take k) (x := (x, y)) (fun i h1 h2 => by rw [← HF.out]; exact HFR.out i h1 h2)
          rw [← HS.out] at hcl
          have hk2 : k < l.length := by rw [HLL.out]; exact hlt
          have A4 := Lib.hid (apart_step hk2 HAP.out hcl)
          clear hcl
          go_wp2_with fail
          refine (SE.out _).mono ?_
          rintro e w2 ⟨rfl, b2⟩
          have M3 := Lib.hid (HM.out.later b2)
          clear b2 HM HR g0 g1
          go_wp2_with fail
          go_roundw
          case rel =>
            refine ⟨k + 1, by omega, by go_num, rfl, A4.out, M3.out.congr fun i _ => ?_⟩
            rw [take_one hk2, marks_snoc, HS.out, ← HF.out]
          case measure => simp [intOf]; omega
    · obtain rfl : k = n := by omega
      go_wp2_with fail
      rw [Exit.noGoto_ret]
      go_ret
      refine HPH.out _ _ ⟨fun _ => ?_, fun _ => rfl⟩ HM.out.below
      have h1 := HAP.out
      rw [List.take_of_length_le (by rw [HLL.out]; exact Nat.le_refl _)] at h1
      rw [← HL.out]
      exact h1
end

end Go.Proofs.Ytmandeohbiagfaa.Slot

namespace Go.Proofs.Ytmandeohbiagfaa.Slot
open Go.RowKit
attribute [local go_sem ↓] Go.wp_at_zero Go.wp_at_succ

def LoadPost (s : ByteArray) (w : World) (e : Ending) (w' : World) : Prop :=
  Below w.heap.size w w' ∧ ((Loads s.data.toList ∧ e = .returned (.tuple #[.pointer (some ⟨w.heap.size + 1, 0, none⟩), .int .i64 0]) ∧ ∃ c, Ar w' (w.heap.size + 1) w.heap.size c s.data.toList) ∨
    (¬ Loads s.data.toList ∧ e = .returned (.tuple #[.pointer none, .int .i64 7])))
theorem LoadPost.no {s : ByteArray} {w w' : World} (h : ¬ Loads s.data.toList) (hb : Below w.heap.size w w') : LoadPost s w (.returned (.tuple #[.pointer none, .int .i64 7])) w' := ⟨hb, .inr ⟨h, rfl⟩⟩
theorem LoadPost.yes {s : ByteArray} {w w' : World} {c : Nat} (h : Loads s.data.toList) (hb : Below w.heap.size w w') (ha : Ar w' (w.heap.size + 1) w.heap.size c s.data.toList) : LoadPost s w (.returned (.tuple #[.pointer (some ⟨w.heap.size + 1, 0, none⟩), .int .i64 0])) w' := ⟨hb, .inl ⟨h, rfl, c, ha⟩⟩

set_option maxRecDepth 100000 in
set_option maxHeartbeats 4000000 in
theorem load_any (s : ByteArray) (w : World) (hs : s.size ≤ 281474976710656) : Calls Try.prog 55 #[.string s] w (LoadPost s w) := by
  have m := sized_any (s.size : Int) w
  have hsl : s.data.toList.length = s.size := rfl
  by_cases hz : 16 ≤ s.size ∧ s.size ≤ 4096
  · rw [show sizedB (s.size : Int) = true from decide_eq_true ⟨by omega, by omega⟩] at m
    obtain ⟨cap, W1, hcv, hrow, hcap, hb1, hs1⟩ := bytes_row s w
    obtain ⟨W2, hW2⟩ : ∃ W2, W2 = W1.alloc (.cells #[.slice (some ⟨w.heap.size, 0, none⟩) s.size cap] 94) := ⟨_, rfl⟩
    have hA : Ar W2 (w.heap.size + 1) w.heap.size cap s.data.toList := by
      refine ⟨?_, ?_, hcap, hz.1, hz.2⟩
      · rw [hW2, ← hs1]; exact heap_alloc_new _ _
      · rw [hW2]; exact hrow.far (Below.heap_alloc _ _ _ hrow.lt)
    have b2 : Below w.heap.size w W2 := by rw [hW2]; exact hb1.alloc hb1.size _
    have fr := framed_any hA
    have M := Lib.hid m
    have HA := Lib.hid hA
    have B2 := Lib.hid b2
    have HW2 := Lib.hid hW2
    have HS1 := Lib.hid hs1
    have FR := Lib.hid fr
    obtain ⟨zf, hzf⟩ : ∃ z, z = framedB s.data.toList := ⟨_, rfl⟩
    have HZF := Lib.hid hzf
    rw [← hzf] at FR
    have YS := Lib.hid (fun (w' : World) (h : Loads s.data.toList) (hb : Below w.heap.size w w') (ha : Ar w' (w.heap.size + 1) w.heap.size cap s.data.toList) => LoadPost.yes h hb ha)
    have NO := Lib.hid (fun (w' : World) (h : ¬ Loads s.data.toList) (hb : Below w.heap.size w w') => LoadPost.no h hb)
    clear m hA b2 hW2 hrow hcap hb1 hs1 fr hzf
    go_enter Try.func55, Try.ntmps55
    go_wp2_with fail
    refine M.out.mono ?_
    rintro e w' ⟨rfl, rfl⟩
    clear M
    go_wp2_with (first | rw [HS1.out] | rw [← HW2.out])
    refine FR.out.mono ?_
    rintro e w3 ⟨rfl, b3⟩
    have B3 := Lib.hid (B2.out.trans (b3.mono B2.out.size))
    have A3 := Lib.hid (HA.out.later b3)
    clear b3 FR HA B2 hcv HW2
    cases zf
    case false =>
      have hno : ¬ Loads s.data.toList := fun h => by
        have h1 := HZF.out
        unfold framedB at h1
        have := of_decide_eq_false h1.symm
        exact this ⟨h.fin, h.low⟩
      have HNO := Lib.hid hno
      clear hno
      go_wp2_with fail
      go_ret2
      exact NO.out _ HNO.out B3.out
    case true =>
      have hfr : 4 + 4 * numL s.data.toList 0 ≤ numL s.data.toList 2 ∧ numL s.data.toList 2 ≤ s.data.toList.length := by
        have h1 := HZF.out
        unfold framedB at h1
        exact of_decide_eq_true h1.symm
      have wi := within_any A3.out (by omega)
      have HFR := Lib.hid hfr
      have WI := Lib.hid wi
      clear wi hfr
      go_wp2_with fail
      refine WI.out.mono ?_
      rintro e w4 ⟨zw, rfl, hzw, b4⟩
      have B4 := Lib.hid (B3.out.trans (b4.mono B3.out.size))
      have A4 := Lib.hid (A3.out.later b4)
      have HZW := Lib.hid hzw
      clear b4 hzw B3 A3 WI
      cases zw
      case false =>
        have hno : ¬ Loads s.data.toList := fun h => by
          have h1 := HZW.out
          have h2 : ¬ Within s.data.toList := by simpa using h1
          exact h2 h.each
        have HNO := Lib.hid hno
        clear hno
        go_wp2_with fail
        go_ret2
        exact NO.out _ HNO.out B4.out
      case true =>
        have hwi : Within s.data.toList := by simpa using HZW.out
        have ap := apart_any A4.out (by have := HFR.out; omega) hwi
        have AP := Lib.hid ap
        have HWI := Lib.hid hwi
        clear ap hwi
        go_wp2_with fail
        refine AP.out.mono ?_
        rintro e w5 ⟨za, rfl, hza, b5⟩
        have B5 := Lib.hid (B4.out.trans (b5.mono B4.out.size))
        have A5 := Lib.hid (A4.out.later b5)
        have HZA := Lib.hid hza
        clear b5 hza B4 A4 AP
        cases za
        case false =>
          have hno : ¬ Loads s.data.toList := fun h => by
            have h2 : ¬ Apart (dirOf s.data.toList) := by simpa using HZA.out
            exact h2 h.apart
          have HNO := Lib.hid hno
          clear hno
          go_wp2_with fail
          go_ret2
          exact NO.out _ HNO.out B5.out
        case true =>
          have hyes : Loads s.data.toList := ⟨hz.1, hz.2, HFR.out.1, HFR.out.2, HWI.out, by simpa using HZA.out⟩
          have HY := Lib.hid hyes
          clear hyes
          go_wp2_with fail
          go_ret2
          exact YS.out _ HY.out B5.out A5.out
  · rw [show sizedB (s.size : Int) = false from decide_eq_false (by omega)] at m
    have hno : ¬ Loads s.data.toList := fun h => hz ⟨h.lo, h.hi⟩
    have HNO := Lib.hid hno
    clear hno hz
    go_enter Try.func55, Try.ntmps55
    go_wp2_with fail
    refine m.mono ?_
    rintro e w' ⟨rfl, rfl⟩
    clear m
    go_wp2_with fail
    go_ret2
    exact LoadPost.no HNO.out (Below.refl _ _)

/-- an area's bytes are loaded as it -/
theorem load_is {W0 w : World} {a : A} (hk : a.ok) (hb : Below W0.heap.size W0 w) : Calls Try.prog 55 #[.string (strB (imgA a))] w fun e w' => e = .returned (.tuple #[.pointer (some ⟨w.heap.size + 1, 0, none⟩), .int .i64 0]) ∧ Below w.heap.size w w' ∧ ∃ c, St W0 w' (w.heap.size + 1) w.heap.size c a := by
  have hi := img_is hk
  have hl := img_loads hk hi
  refine (load_any (strB (imgA a)) w (by show (imgA a).length ≤ _; rw [img_len hk]; have := hk.hi; omega)).mono ?_
  rintro e w' ⟨hb2, h | h⟩
  · obtain ⟨_, he, c, ha⟩ := h
    have := hb.size
    exact ⟨he, hb2, c, ⟨⟨_, ha, hi⟩, hk⟩, hb.trans (hb2.mono hb.size), by omega, by omega⟩
  · exact absurd hl h.1

end Go.Proofs.Ytmandeohbiagfaa.Slot

namespace Go.Proofs.Ytmandeohbiagfaa.Slot
open Go.RowKit

/-- what append's second argument yields -/
def SrcOf (w : World) (x : Value) (m : Nat) (news : List Value) : Prop :=
  (x = .slice none 0 0 ∧ m = 0 ∧ news = []) ∨ ∃ a c, x = .slice (some a) m c ∧ news.length = m ∧ (∀ j u, news[j]? = some u → w.cell? (a.add j) = some u) ∧ (∀ u ∈ news, u.oneCell' = true) ∧ a.block < w.heap.size
/-- v is a slice of these texts, in a block that was made since W0 -/
structure Tx (W0 w : World) (v : Value) (l : List ByteArray) : Prop where
  own : w.ownsRow W0.heap.size 9 1 v l.length (l.map Value.string)
  size : W0.heap.size ≤ w.heap.size

theorem str_one (l : List ByteArray) : ∀ u ∈ l.map Value.string, u.oneCell' = true := by
  intro u hu
  obtain ⟨s, _, rfl⟩ := List.mem_map.1 hu
  rfl
set_option maxRecDepth 100000 in
theorem Word.infoS : (Try.prog.info? 9).map (fun i => (i.zero, i.size, i.bytes)) = some (some (.string ⟨#[]⟩), 1, 16) := by kernel_rfl

section
variable {W0 w : World} {v : Value} {l : List ByteArray}
theorem Tx.form (h : Tx W0 w v l) : (v = .slice none 0 0 ∧ l = []) ∨ ∃ g cap cur, v = .slice (some ⟨g, 0, none⟩) l.length cap ∧ W0.heap.size ≤ g ∧ w.heap[g]? = some (.cells cur 9 (0, 0)) ∧ l.length ≤ cap ∧ cur.toList.take l.length = l.map Value.string := by
  rcases h.own.2 with ⟨h1, h2⟩ | ⟨g, cap, cur, h1, h2, h3, h4, h5, h6, h7⟩
  · exact .inl ⟨h1, List.eq_nil_of_length_eq_zero h2⟩
  · exact .inr ⟨g, cap, cur, h1, h2, h3, h4, by rw [Nat.mul_one] at h7; exact h7⟩
theorem Tx.shape (h : Tx W0 w v l) : ∃ ad cap, v = .slice ad l.length cap := by
  rcases h.form with ⟨rfl, rfl⟩ | ⟨g, cap, cur, h1, _⟩
  · exact ⟨none, 0, rfl⟩
  · exact ⟨_, cap, h1⟩
theorem Tx.nil (W0 : World) {w : World} (hs : W0.heap.size ≤ w.heap.size) : Tx W0 w (.slice none 0 0) [] := ⟨World.ownsRow_nil _ _ _ _, hs⟩
/-- the row is none of an area's blocks -/
theorem Tx.apart (h : Tx W0 w v l) {p g c : Nat} {b : List UInt8} (ha : Ar w p g c b) : ∀ x, v.ownBlock = some x → ¬ both p g x := by
  intro x hx
  rcases h.form with ⟨rfl, rfl⟩ | ⟨g', cap, cur, rfl, _, h3, _⟩
  · simp [Value.ownBlock] at hx
  · simp [Value.ownBlock] at hx
    subst hx
    rintro (rfl | rfl)
    · have := ha.head.symm.trans h3; simp at this
    · obtain ⟨cur', m, k1, _⟩ := ha.row
      have := k1.symm.trans h3
      simp at this
theorem Tx.far {w' : World} (h : Tx W0 w v l) (hs : w.heap.size ≤ w'.heap.size) (hk : ∀ x, v.ownBlock = some x → w'.heap[x]? = w.heap[x]?) : Tx W0 w' v l := by
  refine ⟨⟨h.own.1, ?_⟩, Nat.le_trans h.size hs⟩
  rcases h.own.2 with ⟨h1, h2⟩ | ⟨g, cap, cur, rfl, h2, h3, h4⟩
  · exact .inl ⟨h1, h2⟩
  · exact .inr ⟨g, cap, cur, rfl, h2, (hk g rfl).trans h3, h4⟩
theorem Tx.lt (h : Tx W0 w v l) : ∀ x, v.ownBlock = some x → x < w.heap.size := fun x hx => (h.own.lt x hx).2
theorem Tx.later {w' : World} (h : Tx W0 w v l) (t : Below w.heap.size w w') : Tx W0 w' v l := h.far t.size fun x hx => t.block x (h.lt x hx)
theorem Tx.touch {w' : World} {p g c : Nat} {b : List UInt8} (h : Tx W0 w v l) (ha : Ar w p g c b) (t : Touch (both p g) w w') : Tx W0 w' v l := h.far t.size fun x hx => t.block x (h.lt x hx) (h.apart ha x hx)
theorem Tx.touchA {w' : World} {p g c : Nat} {a : A} (h : Tx W0 w v l) (ha : Area w p g c a) (t : Touch (both p g) w w') : Tx W0 w' v l := by
  obtain ⟨⟨b, hb, _⟩, _⟩ := ha
  exact h.touch hb t
/-- an area stands where a row of texts has grown -/
theorem St.grown {w' : World} {p g c : Nat} {a : A} (h : St W0 w p g c a) (k : Tx W0 w v l) (t : w.grownBy w' v.ownBlock) : St W0 w' p g c a := by
  obtain ⟨⟨⟨b, hb, hi⟩, hk⟩, hbl, ho⟩ := h
  refine ⟨⟨⟨b, hb.far fun x hx => t.block x (hb.below x hx) fun e => k.apart hb x e.symm hx, hi⟩, hk⟩, ?_, ho⟩
  exact hbl.grown t hbl.size fun x hx => (k.own.lt x hx).1

/-! ### slices of it -/
set_option maxRecDepth 100000 in
theorem elem_strs : Try.prog.underlying 24 = some (.slice (Try.prog.elem 24)) := by kernel_rfl
set_option maxRecDepth 100000 in
theorem size_str (w : World) : (sizeOf (Try.prog.elem 24)).run Try.prog w = .ok 1 w := by kernel_rfl
theorem Tx.head (h : Tx W0 w v l) {k : Nat} (hk : k ≤ l.length) : ∃ x, (∀ W : World, (Instr.sliceAt 24 v none (some (.int .i64 (k : Int))) none).run Try.prog W = .ok x W) ∧ SrcOf w x k ((l.take k).map Value.string) := by
  rcases h.form with ⟨rfl, rfl⟩ | ⟨g, cap, cur, rfl, h2, h3, h4, h5⟩
  · have hk0 : k = 0 := by simpa using hk
    subst hk0
    refine ⟨.slice none 0 0, fun W => ?_, .inl ⟨rfl, rfl, rfl⟩⟩
    rw [run_sliceAt_slice (P := Try.prog) W 24 _ _ _ _ elem_strs, run_slice_h (P := Try.prog) W 24 _ _ _ elem_strs .i64 ((0 : Nat) : Int) (by omega) (by omega), size_str]
    rfl
  · refine ⟨.slice (some ⟨g, 0, none⟩) k cap, fun W => ?_, .inr ⟨⟨g, 0, none⟩, cap, rfl, by rw [List.length_map, List.length_take]; omega, fun j u hj => ?_, str_one _, (Array.getElem?_eq_some_iff.1 h3).1⟩⟩
    · rw [run_sliceAt_slice (P := Try.prog) W 24 _ _ _ _ elem_strs, run_slice_h (P := Try.prog) W 24 _ _ _ elem_strs .i64 (k : Int) (by omega) (by omega), size_str]
      simp only [Result.andThen, sliced, Int.toNat_natCast]
      congr 2
      · split <;> simp [Addr.add]
    · have e : (⟨g, 0, none⟩ : Addr).add j = ⟨g, j, none⟩ := by simp [Addr.add]; omega
      rw [e, cell_of_row w g j cur _ _ h3]
      rw [List.map_take, ← h5, List.take_take, List.getElem?_take] at hj
      split at hj
      · rw [← Array.getElem?_toList]; exact hj
      · cases hj
theorem Tx.tail (h : Tx W0 w v l) {k : Nat} (hk : k ≤ l.length) : ∃ x, (∀ W : World, (Instr.sliceAt 24 v (some (.int .i64 (k : Int))) none none).run Try.prog W = .ok x W) ∧ SrcOf w x (l.length - k) ((l.drop k).map Value.string) := by
  rcases h.form with ⟨rfl, rfl⟩ | ⟨g, cap, cur, rfl, h2, h3, h4, h5⟩
  · have hk0 : k = 0 := by simpa using hk
    subst hk0
    refine ⟨.slice none 0 0, fun W => ?_, .inl ⟨rfl, rfl, rfl⟩⟩
    rw [run_sliceAt_slice (P := Try.prog) W 24 _ _ _ _ elem_strs, run_slice_l (P := Try.prog) W 24 _ _ _ elem_strs .i64 ((0 : Nat) : Int) (by omega) (by simp), size_str]
    rfl
  · obtain ⟨o, ho⟩ := base_any g k cap
    refine ⟨.slice (base g k cap) (l.length - k) (cap - k), fun W => ?_, .inr ⟨⟨g, o, none⟩, cap - k, by rw [ho], by rw [List.length_map, List.length_drop], fun j u hj => ?_, str_one _, (Array.getElem?_eq_some_iff.1 h3).1⟩⟩
    · rw [run_sliceAt_slice (P := Try.prog) W 24 _ _ _ _ elem_strs, run_slice_l (P := Try.prog) W 24 _ _ _ elem_strs .i64 (k : Int) (by omega) (by omega), size_str]
      simp only [Result.andThen, sliced, Int.toNat_natCast, base, Option.map_some, Nat.mul_one]
      congr 2
      split <;> simp [Addr.add] <;> omega
    · have hjl : j < l.length - k := by
        have := (List.getElem?_eq_some_iff.1 hj).1
        rwa [List.length_map, List.length_drop] at this
      rw [base_lt (by omega)] at ho
      have e2 : o = k := by simp at ho; exact ho.symm
      subst e2
      have e : (⟨g, o, none⟩ : Addr).add j = ⟨g, o + j, none⟩ := by simp [Addr.add]
      rw [e, cell_of_row w g _ cur _ _ h3]
      rw [List.map_drop, ← h5, List.getElem?_drop, List.getElem?_take, if_pos (by omega)] at hj
      rw [← Array.getElem?_toList]; exact hj
theorem Tx.all (h : Tx W0 w v l) : SrcOf w v l.length (l.map Value.string) := by
  rcases h.form with ⟨rfl, rfl⟩ | ⟨g, cap, cur, rfl, h2, h3, h4, h5⟩
  · exact .inl ⟨rfl, rfl, rfl⟩
  · refine .inr ⟨⟨g, 0, none⟩, cap, rfl, by rw [List.length_map], fun j u hj => ?_, str_one _, (Array.getElem?_eq_some_iff.1 h3).1⟩
    have e : (⟨g, 0, none⟩ : Addr).add j = ⟨g, j, none⟩ := by simp [Addr.add]; omega
    rw [e, cell_of_row w g j cur _ _ h3]
    rw [← h5, List.getElem?_take] at hj
    split at hj
    · rw [← Array.getElem?_toList]; exact hj
    · cases hj
theorem SrcOf.later {w' : World} {x : Value} {m : Nat} {news : List Value} (h : SrcOf w x m news) (t : Below w.heap.size w w') : SrcOf w' x m news := by
  rcases h with h | ⟨a, c, rfl, h1, h2, h3, h4⟩
  · exact .inl h
  · refine .inr ⟨a, c, rfl, h1, fun j u hj => ?_, h3, Nat.lt_of_lt_of_le h4 t.size⟩
    have e : (a.add j).block = a.block := by unfold Addr.add; split <;> rfl
    have hb : w'.heap[(a.add j).block]? = w.heap[(a.add j).block]? := by rw [e]; exact t.block a.block h4
    exact (World.cell?_of_block hb).trans (h2 j u hj)
/-- what has grown since -/
theorem below_grown {w1 w' : World} {v : Value} (hb : Below w.heap.size w w1) (h : ∀ x, v.ownBlock = some x → w.heap.size ≤ x) (g : w1.grownBy w' v.ownBlock) : Below w.heap.size w w' := hb.grown g hb.size h

/-! ### append -/
set_option maxRecDepth 100000 in
theorem run_app {x : Value} {news : List ByteArray} (ty : TypeId) (h : Tx W0 w v l) (hs : SrcOf w x news.length (news.map Value.string)) (hn : l.length + news.length ≤ 1000000) :
    ∃ v' w', (Builtin.append_ #[24, 24] ty #[v, x]).run Try.prog w = .ok v' w' ∧ Tx W0 w' v' (l ++ news) ∧ w.grownBy w' v.ownBlock := by
  obtain ⟨i0, hi, hz0, hz1, hz2⟩ := info_parts Word.infoS
  rcases hs with ⟨rfl, h2, h3⟩ | ⟨a, c, rfl, h1, h2, h3, _⟩
  · have hnews : news = [] := List.eq_nil_of_length_eq_zero h2
    subst hnews
    exact ⟨v, w, run_append_owned_none (P := Try.prog) (w := w) W0.heap.size 24 ty 9 i0 1 Try.underlying24 hi v l.length _ h.own, by rw [List.append_nil]; exact h, ⟨rfl, rfl, rfl, Nat.le_refl _, fun _ _ _ => rfl⟩⟩
  · obtain ⟨v', w', hr, h4, h5, _⟩ := run_append_own (P := Try.prog) w W0.heap.size 24 ty 9 i0 (.string ⟨#[]⟩) 1 16 Try.underlying24 hi hz0 hz1 hz2 rfl (by decide) v l.length _ h.own a news.length c (news.map Value.string) (by rw [List.length_map, Nat.mul_one]) h2 h3 (by unfold maxLen; omega) (by omega) h.size
    refine ⟨v', w', hr, ⟨?_, Nat.le_trans h.size h5.size⟩, h5⟩
    rw [List.length_append, List.map_append]
    exact h4
section
variable {ops : Array Oper} {rest : List Oper} {o : Oper} {a : Act} {Q : Exit → Act → World → Prop} {K : Act → World → Prop} {E : Prop}
theorem wp_app {x : Value} {news : List ByteArray} (s d : Operand) (ho : o.op = .call { callee := .builtin .append, args := #[s, d], argTypes := #[24, 24] }) (h : Tx W0 w v l) (hs : SrcOf w x news.length (news.map Value.string)) (hn : l.length + news.length ≤ 1000000)
    (h1 : a.eval s = v) (h2 : a.eval d = x) {Q : Exit → Act → World → Prop} (hk : ∀ v' w', Tx W0 w' v' (l ++ news) → w.grownBy w' v.ownBlock → K (a.put o.dst v') w') : o.wp Try.prog a w K Q := by
  obtain ⟨v', w', hr, k1, k2⟩ := run_app (ty := o.type) h hs hn
  unfold Oper.wp execOp
  simp only [ho, resolve, invoke, builtin, Sem.run_bind, Sem.run_pure, Result.andThen_ok, List.map_toArray, List.map_cons, List.map_nil, h1, h2, hr]
  exact hk v' w' k1 k2
theorem wpList_app {x : Value} {news : List ByteArray} (hgd : o.guard = none) (s d : Operand) (ho : o.op = .call { callee := .builtin .append, args := #[s, d], argTypes := #[24, 24] }) (h : Tx W0 w v l) (hs : SrcOf w x news.length (news.map Value.string)) (hn : l.length + news.length ≤ 1000000)
    (h1 : a.eval s = v) (h2 : a.eval d = x) (hk : ∀ v' w', Tx W0 w' v' (l ++ news) → w.grownBy w' v.ownBlock → wpList Try.prog ops Q rest (a.put o.dst v') w') : wpList Try.prog ops Q (o :: rest) a w :=
  wpList_plain hgd fun _ hK => wp_app s d ho h hs hn h1 h2 fun v' w' k1 k2 => hK _ _ (hk v' w' k1 k2)
theorem step_app {x : Value} {news : List ByteArray} (hgd : o.guard = none) (s d : Operand) (ho : o.op = .call { callee := .builtin .append, args := #[s, d], argTypes := #[24, 24] }) (h : Tx W0 w v l) (hs : SrcOf w x news.length (news.map Value.string)) (hn : l.length + news.length ≤ 1000000)
    (h1 : a.eval s = v) (h2 : a.eval d = x) (hk : ∀ v' w', Tx W0 w' v' (l ++ news) → w.grownBy w' v.ownBlock → K (a.put o.dst v') w') : if Region.wanted o (yielded ops a.tmps) = true then Oper.wp Try.prog o a w K Q else E := by
  have hw : Region.wanted o (yielded ops a.tmps) = true := by simp [Region.wanted, hgd]
  rw [if_pos hw]
  exact wp_app s d ho h hs hn h1 h2 hk
end
/-- a new slice of texts -/
theorem Tx.made (W0 : World) {w : World} (l : List ByteArray) (hs : W0.heap.size ≤ w.heap.size) (hl : l.length ≤ 1000000) : Tx W0 (w.alloc (.cells (l.map Value.string).toArray 9)) (.slice (some ⟨w.heap.size, 0, none⟩) l.length l.length) l := by
  refine ⟨?_, by simp; omega⟩
  have := World.ownsRow_lit (base := W0.heap.size) (e := 9) (size := 1) w (l.map Value.string).toArray l.length hs (by unfold maxLen; omega) (by simp)
  simpa using this
/-- a store -/
theorem Tx.store {ad : Option Addr} {cap k : Nat} (h : Tx W0 w (.slice ad l.length cap) l) (hk : k < l.length) (t : ByteArray) :
    ∃ g, ad = some ⟨g, 0, none⟩ ∧ w.cell? ⟨g, k, none⟩ = some (.string (l.getD k ⟨#[]⟩)) ∧ w.frozen? ⟨g, k, none⟩ = false ∧ Tx W0 (w.setCell ⟨g, k, none⟩ (.string t)) (.slice ad l.length cap) (l.set k t) ∧ w.grownBy (w.setCell ⟨g, k, none⟩ (.string t)) (some g) := by
  rcases h.form with ⟨h1, rfl⟩ | ⟨g, cap', cur, h1, h2, h3, h4, h5⟩
  · simp at hk
  · simp only [Value.slice.injEq] at h1
    obtain ⟨rfl, _, rfl⟩ := h1
    have hst := h.own.stored k (.string t)
    refine ⟨g, rfl, ?_, frozen_of_row w g k _ _ h3, ⟨?_, by simpa using h.size⟩, hst.2⟩
    · rw [cell_of_row w g k cur _ _ h3]
      have : (cur.toList.take l.length)[k]? = (l.map Value.string)[k]? := by rw [h5]
      rw [List.getElem?_take, if_pos hk] at this
      rw [← Array.getElem?_toList, this, List.getElem?_map, List.getD_eq_getElem?_getD, List.getElem?_eq_getElem hk]
      rfl
    · rw [List.length_set, List.map_set]
      exact hst.1
theorem Tx.at {ad : Option Addr} {cap k : Nat} (h : Tx W0 w (.slice ad l.length cap) l) (hk : k < l.length) :
    ∃ g, ad = some ⟨g, 0, none⟩ ∧ w.cell? ⟨g, k, none⟩ = some (.string (l.getD k ⟨#[]⟩)) := by
  obtain ⟨g, h1, h2, _⟩ := h.store hk ⟨#[]⟩
  exact ⟨g, h1, h2⟩
end

end Go.Proofs.Ytmandeohbiagfaa.Slot

namespace Go.Proofs.Ytmandeohbiagfaa.Slot
open Go.RowKit

/-! ### places -/
def plC (x : Nat × Nat) : List Value := [.int .i64 (x.1 : Int), .int .i64 (x.2 : Int)]
def dirC (l : List (Nat × Nat)) : List Value := l.flatMap plC
theorem dirC_cons (x : Nat × Nat) (l : List (Nat × Nat)) : dirC (x :: l) = plC x ++ dirC l := by simp [dirC]
theorem dirC_app (l m : List (Nat × Nat)) : dirC (l ++ m) = dirC l ++ dirC m := by simp [dirC]
theorem dirC_len (l : List (Nat × Nat)) : (dirC l).length = l.length * 2 := by
  induction l with
  | nil => rfl
  | cons x l ih => rw [dirC_cons, List.length_append, ih]; simp [plC]; omega
theorem dirC_take (l : List (Nat × Nat)) (k : Nat) (hk : k ≤ l.length) : (dirC l).take (k * 2) = dirC (l.take k) := by
  have h := dirC_app (l.take k) (l.drop k)
  rw [List.take_append_drop] at h
  rw [h]
  have hl : (dirC (l.take k)).length = k * 2 := by rw [dirC_len, List.length_take, Nat.min_eq_left hk]
  rw [← hl]
  exact List.take_left
theorem dirC_drop (l : List (Nat × Nat)) (k : Nat) (hk : k ≤ l.length) : (dirC l).drop (k * 2) = dirC (l.drop k) := by
  have h := dirC_app (l.take k) (l.drop k)
  rw [List.take_append_drop] at h
  rw [h]
  have hl : (dirC (l.take k)).length = k * 2 := by rw [dirC_len, List.length_take, Nat.min_eq_left hk]
  rw [← hl]
  exact List.drop_left
theorem dirC_at {l : List (Nat × Nat)} {k : Nat} (hk : k < l.length) : (dirC l)[k * 2]? = some (.int .i64 ((l.getD k (0, 0)).1 : Int)) ∧ (dirC l)[k * 2 + 1]? = some (.int .i64 ((l.getD k (0, 0)).2 : Int)) := by
  have h1 : ((dirC l).drop (k * 2)) = plC (l.getD k (0, 0)) ++ dirC (l.drop (k + 1)) := by
    rw [dirC_drop l k (by omega), List.drop_eq_getElem_cons hk, dirC_cons, List.getD_eq_getElem?_getD, List.getElem?_eq_getElem hk]
    rfl
  have h2 : ∀ j, (dirC l)[k * 2 + j]? = ((dirC l).drop (k * 2))[j]? := fun j => by rw [List.getElem?_drop]
  refine ⟨?_, ?_⟩
  · have := h2 0
    rw [Nat.add_zero, h1] at this
    rw [this]; rfl
  · rw [h2 1, h1]; rfl
theorem dirC_set (l : List (Nat × Nat)) (k : Nat) (hk : k < l.length) (x : Nat × Nat) : (dirC l).take (k * 2) ++ plC x ++ (dirC l).drop (k * 2 + 2) = dirC (l.set k x) := by
  rw [dirC_take l k (by omega), show k * 2 + 2 = (k + 1) * 2 by omega, dirC_drop l (k + 1) (by omega), List.set_eq_take_append_cons_drop, if_pos hk, dirC_app, dirC_cons, List.append_assoc]
theorem dirC_one (l : List (Nat × Nat)) : ∀ u ∈ dirC l, u.oneCell' = true := by
  intro u hu
  unfold dirC at hu
  obtain ⟨x, _, hx⟩ := List.mem_flatMap.1 hu
  simp [plC] at hx
  rcases hx with rfl | rfl <;> rfl

theorem ownsRow_far {w w' : World} {B : Nat} {e : TypeId} {size : Nat} {v : Value} {n : Nat} {xs : List Value} (h : w.ownsRow B e size v n xs) (hk : ∀ b, v.ownBlock = some b → w'.heap[b]? = w.heap[b]?) : w'.ownsRow B e size v n xs := by
  refine ⟨h.1, ?_⟩
  rcases h.2 with hn | ⟨g, cap, cur, rfl, hb, hg, rest⟩
  · exact .inl hn
  · exact .inr ⟨g, cap, cur, rfl, hb, (hk g rfl).trans hg, rest⟩

theorem set_two {T : Type} (l : List T) (k : Nat) (h : k + 1 < l.length) (x y : T) : (l.set k x).set (k + 1) y = l.take k ++ [x, y] ++ l.drop (k + 2) := by
  apply List.ext_getElem?
  intro j
  have ht : (l.take k).length = k := by rw [List.length_take]; omega
  rw [List.getElem?_set, List.getElem?_set, List.append_assoc]
  by_cases h1 : j < k
  · rw [if_neg (by omega), if_neg (by omega), List.getElem?_append_left (by omega), List.getElem?_take, if_pos h1]
  · rw [List.getElem?_append_right (by omega), ht]
    by_cases h2 : j = k
    · subst h2
      rw [if_neg (by omega), if_pos rfl, if_pos (by omega), Nat.sub_self]
      rfl
    · by_cases h3 : j = k + 1
      · subst h3
        rw [if_pos rfl, if_pos (by rw [List.length_set]; exact h), show k + 1 - k = 1 by omega]
        rfl
      · rw [if_neg (by omega), if_neg (by omega), List.getElem?_append_right (by simp; omega), List.getElem?_drop]
        congr 1
        simp
        omega
/-- v is a slice of these places -/
def Dl (w : World) (v : Value) (l : List (Nat × Nat)) : Prop := w.ownsRow 0 83 2 v l.length (dirC l)
theorem Dl.form {w : World} {v : Value} {l : List (Nat × Nat)} (h : Dl w v l) : (v = .slice none 0 0 ∧ l = []) ∨ ∃ g cap cur, v = .slice (some ⟨g, 0, none⟩) l.length cap ∧ w.heap[g]? = some (.cells cur 83 (0, 0)) ∧ l.length ≤ cap ∧ cur.toList.take (l.length * 2) = dirC l := by
  rcases h.2 with ⟨h1, h2⟩ | ⟨g, cap, cur, h1, h2, h3, h4, h5, h6, h7⟩
  · exact .inl ⟨h1, List.eq_nil_of_length_eq_zero h2⟩
  · exact .inr ⟨g, cap, cur, h1, h3, h4, h7⟩
theorem Dl.shape {w : World} {v : Value} {l : List (Nat × Nat)} (h : Dl w v l) : ∃ ad cap, v = .slice ad l.length cap := by
  rcases h.form with ⟨rfl, rfl⟩ | ⟨g, cap, cur, h1, _⟩
  · exact ⟨none, 0, rfl⟩
  · exact ⟨_, cap, h1⟩
theorem Dl.at {w : World} {ad : Option Addr} {cap : Nat} {l : List (Nat × Nat)} (h : Dl w (.slice ad l.length cap) l) {k : Nat} (hk : k < l.length) :
    ∃ g, ad = some ⟨g, 0, none⟩ ∧ w.cell? ⟨g, k * 2, none⟩ = some (.int .i64 ((l.getD k (0, 0)).1 : Int)) ∧ w.cell? ⟨g, k * 2 + 1, none⟩ = some (.int .i64 ((l.getD k (0, 0)).2 : Int)) ∧ w.frozen? ⟨g, k * 2, none⟩ = false ∧ w.frozen? ⟨g, k * 2 + 1, none⟩ = false := by
  rcases h.form with ⟨h1, rfl⟩ | ⟨g, cap', cur, h1, h3, h4, h5⟩
  · simp at hk
  · simp only [Value.slice.injEq] at h1
    obtain ⟨rfl, _, rfl⟩ := h1
    obtain ⟨c1, c2⟩ := dirC_at hk
    rw [← h5, List.getElem?_take, if_pos (by omega)] at c1 c2
    refine ⟨g, rfl, ?_, ?_, frozen_of_row w g _ _ _ h3, frozen_of_row w g _ _ _ h3⟩
    · rw [cell_of_row w g _ cur _ _ h3, ← Array.getElem?_toList]; exact c1
    · rw [cell_of_row w g _ cur _ _ h3, ← Array.getElem?_toList]; exact c2
theorem Dl.set {w : World} {g cap : Nat} {l : List (Nat × Nat)} (h : Dl w (.slice (some ⟨g, 0, none⟩) l.length cap) l) {k : Nat} (hk : k < l.length) (x : Nat × Nat) :
    Dl ((w.setCell ⟨g, k * 2, none⟩ (.int .i64 (x.1 : Int))).setCell ⟨g, k * 2 + 1, none⟩ (.int .i64 (x.2 : Int))) (.slice (some ⟨g, 0, none⟩) l.length cap) (l.set k x) := by
  have h1 := (h.stored (k * 2) (.int .i64 (x.1 : Int))).1
  have h2 := (h1.stored (k * 2 + 1) (.int .i64 (x.2 : Int))).1
  unfold Dl
  rw [List.length_set]
  have e : ((dirC l).set (k * 2) (.int .i64 (x.1 : Int))).set (k * 2 + 1) (.int .i64 (x.2 : Int)) = dirC (l.set k x) := by
    rw [← dirC_set l k hk x]
    exact set_two _ _ (by rw [dirC_len]; omega) _ _
  rw [← e]
  exact h2

/-! ### the area -/
structure RLay (w : World) (q h cB : Nat) (v : Value) (a : A) : Prop where
  head : w.heap[q]? = some (.cells #[.slice (some ⟨h, 0, none⟩) a.n cB, .int .i64 (a.low : Int), v] 70 (0, 0))
  row : Row w h a.cells
  cap : a.n ≤ cB
  dl : Dl w v a.dir
structure Rf (w : World) (q : Nat) (a : A) (F : Nat → Prop) : Prop where
  lay : ∃ h cB v, RLay w q h cB v a ∧ F q ∧ F h ∧ ∀ b, v.ownBlock = some b → F b
  below : ∀ b, F b → b < w.heap.size

section
variable {w : World} {q h cB : Nat} {v : Value} {a : A} {F : Nat → Prop}
theorem RLay.cell0 (L : RLay w q h cB v a) : w.cell? ⟨q, 0, none⟩ = some (.slice (some ⟨h, 0, none⟩) a.n cB) := by rw [cell_of_row w q 0 _ _ _ L.head]; rfl
theorem RLay.cell1 (L : RLay w q h cB v a) : w.cell? ⟨q, 1, none⟩ = some (.int .i64 (a.low : Int)) := by rw [cell_of_row w q 1 _ _ _ L.head]; rfl
theorem RLay.cell2 (L : RLay w q h cB v a) : w.cell? ⟨q, 2, none⟩ = some v := by rw [cell_of_row w q 2 _ _ _ L.head]; rfl
theorem RLay.free (L : RLay w q h cB v a) (j : Nat) : w.frozen? ⟨q, j, none⟩ = false := frozen_of_row w q j _ _ L.head
theorem RLay.ne (L : RLay w q h cB v a) : q ≠ h := by
  rintro rfl
  obtain ⟨cur, m, h1, _⟩ := L.row
  have := L.head.symm.trans h1
  simp at this
theorem RLay.ne1 (L : RLay w q h cB v a) {b : Nat} (hb : v.ownBlock = some b) : b ≠ q ∧ b ≠ h := by
  rcases L.dl.form with ⟨rfl, _⟩ | ⟨g, cap, cur, rfl, h2, _⟩
  · simp [Value.ownBlock] at hb
  · simp [Value.ownBlock] at hb
    subst hb
    refine ⟨?_, ?_⟩
    · rintro rfl
      have := L.head.symm.trans h2
      simp at this
    · rintro rfl
      obtain ⟨cur', m, h1, _⟩ := L.row
      have := h1.symm.trans h2
      simp at this
theorem Rf.far {w' : World} (H : Rf w q a F) (hs : w.heap.size ≤ w'.heap.size) (hk : ∀ b, F b → w'.heap[b]? = w.heap[b]?) : Rf w' q a F := by
  obtain ⟨h, cB, v, L, f1, f2, f3⟩ := H.lay
  exact ⟨⟨h, cB, v, ⟨(hk q f1).trans L.head, L.row.far (hk h f2), L.cap, ownsRow_far L.dl (fun b hb => hk b (f3 b hb))⟩, f1, f2, f3⟩, fun b hb => Nat.lt_of_lt_of_le (H.below b hb) hs⟩
theorem Rf.later {w' : World} (H : Rf w q a F) (t : Below w.heap.size w w') : Rf w' q a F := H.far t.size fun b hb => t.block b (H.below b hb)
theorem Rf.drew' (H : Rf w q a F) : Rf w.drew q a F := H.later ((Below.refl _ _).drew)
theorem Rf.touch {w' : World} {G : Nat → Prop} (H : Rf w q a F) (t : Touch G w w') (hd : ∀ b, F b → ¬ G b) : Rf w' q a F := H.far t.size fun b hb => t.block b (H.below b hb) (hd b hb)
theorem Rf.mono {G : Nat → Prop} (H : Rf w q a F) (hG : ∀ b, F b → G b) (hb : ∀ b, G b → b < w.heap.size) : Rf w q a G := by
  obtain ⟨h, cB, v, L, f1, f2, f3⟩ := H.lay
  exact ⟨⟨h, cB, v, L, hG _ f1, hG _ f2, fun b hb => hG _ (f3 b hb)⟩, hb⟩
theorem Rf.grown {w0 : World} (H : Rf w q a F) : Rf w q a (grew F w0 w) :=
  H.mono (fun b hb => .inl hb) (by rintro b (hb | hb); · exact H.below b hb
                                   · exact hb.2)
/-- the low place is another one -/
theorem Rf.setLow (H : Rf w q a F) (n : Nat) : Rf (w.setCell ⟨q, 1, none⟩ (.int .i64 (n : Int))) q ⟨a.cells, n, a.dir⟩ F ∧ Touch F w (w.setCell ⟨q, 1, none⟩ (.int .i64 (n : Int))) := by
  obtain ⟨h, cB, v, L, f1, f2, f3⟩ := H.lay
  refine ⟨⟨⟨h, cB, v, ⟨?_, ?_, L.cap, ?_⟩, f1, f2, f3⟩, fun b hb => by simpa using H.below b hb⟩, (Touch.refl F w).setCell (x := ⟨q, 1, none⟩) f1 _⟩
  · rw [heap_setCell_same w q 1 _ _ _ L.head]; rfl
  · exact L.row.far (heap_setCell_other _ _ _ _ (by exact fun e => L.ne e.symm))
  · exact ownsRow_far L.dl fun b hb => heap_setCell_other _ _ _ _ (by exact (L.ne1 hb).1)
/-- bytes are others -/
theorem Rf.put (H : Rf w q a F) {h cB : Nat} (h0 : w.cell? ⟨q, 0, none⟩ = some (.slice (some ⟨h, 0, none⟩) a.n cB)) {k : Nat} {t : List UInt8} (hk : k + t.length ≤ a.n) :
    Rf (w.setCells h k (Lib.byteCells t)) q ⟨putL a.cells k t, a.low, a.dir⟩ F ∧ Touch F w (w.setCells h k (Lib.byteCells t)) := by
  obtain ⟨h', cB', v, L, f1, f2, f3⟩ := H.lay
  have h1 := L.cell0
  rw [h0] at h1
  simp at h1
  obtain ⟨rfl, rfl⟩ := h1
  have ht := Touch.setCells (F := F) f2 (Lib.byteCells t) k (Touch.refl _ w)
  have hl : (putL a.cells k t).length = a.n := putL_len hk
  refine ⟨⟨⟨h, cB, v, ⟨?_, L.row.put hk, by show (putL a.cells k t).length ≤ _; rw [hl]; exact L.cap, ?_⟩, f1, f2, f3⟩, fun b hb => Nat.lt_of_lt_of_le (H.below b hb) ht.size⟩, ht⟩
  · rw [World.heap_setCells_other w h _ _ (H.below q f1) L.ne]
    show _ = some (Obj.cells #[.slice _ (putL a.cells k t).length _, _, _] _ _)
    rw [hl]; exact L.head
  · exact ownsRow_far L.dl fun b hb => World.heap_setCells_other w h _ _ (H.below b (f3 b hb)) (L.ne1 hb).2
/-- one byte is another one -/
theorem Rf.byte (H : Rf w q a F) {h cB : Nat} (h0 : w.cell? ⟨q, 0, none⟩ = some (.slice (some ⟨h, 0, none⟩) a.n cB)) {k : Nat} (hk : k < a.n) (x : UInt8) :
    w.cell? ⟨h, k, none⟩ = some (.int .u8 ((a.cells.getD k 0).toNat : Int)) ∧ w.frozen? ⟨h, k, none⟩ = false ∧ Rf (w.setCell ⟨h, k, none⟩ (.int .u8 (x.toNat : Int))) q ⟨putL a.cells k [x], a.low, a.dir⟩ F ∧ Touch F w (w.setCell ⟨h, k, none⟩ (.int .u8 (x.toNat : Int))) ∧
      (w.setCell ⟨h, k, none⟩ (.int .u8 (x.toNat : Int))).cell? ⟨q, 0, none⟩ = some (.slice (some ⟨h, 0, none⟩) a.n cB) := by
  have P := H.put h0 (k := k) (t := [x]) (by simp; omega)
  obtain ⟨h', cB', v, L, f1, f2, f3⟩ := H.lay
  have h1 := L.cell0
  rw [h0] at h1
  simp at h1
  obtain ⟨rfl, rfl⟩ := h1
  refine ⟨L.row.cell hk, L.row.free hk, P.1, P.2, ?_⟩
  rw [World.cell?_setCell_other _ _ _ _ (by simp; intro e; exact absurd e.symm L.ne)]
  exact h0
/-- a place is another one -/
theorem Rf.setDir (H : Rf w q a F) {ad : Option Addr} {cap : Nat} (h2 : w.cell? ⟨q, 2, none⟩ = some (.slice ad a.dir.length cap)) {k : Nat} (hk : k < a.dir.length) (x : Nat × Nat) :
    ∃ g, ad = some ⟨g, 0, none⟩ ∧ Rf ((w.setCell ⟨g, k * 2, none⟩ (.int .i64 (x.1 : Int))).setCell ⟨g, k * 2 + 1, none⟩ (.int .i64 (x.2 : Int))) q ⟨a.cells, a.low, a.dir.set k x⟩ F ∧ Touch F w ((w.setCell ⟨g, k * 2, none⟩ (.int .i64 (x.1 : Int))).setCell ⟨g, k * 2 + 1, none⟩ (.int .i64 (x.2 : Int))) := by
  obtain ⟨h, cB, v, L, f1, f2, f3⟩ := H.lay
  have h3 := L.cell2
  rw [h2] at h3
  simp only [Option.some.injEq] at h3
  subst h3
  obtain ⟨g, rfl, _⟩ := L.dl.at hk
  have hg := f3 g rfl
  have hn := L.ne1 (b := g) rfl
  have hds := L.dl.set hk x
  refine ⟨g, rfl, ⟨⟨h, cB, _, ⟨?_, ?_, L.cap, by show Dl _ _ (a.dir.set k x); exact hds⟩, f1, f2, f3⟩, fun b hb => by simpa using H.below b hb⟩, ((Touch.refl F w).setCell (x := ⟨g, k * 2, none⟩) hg _).setCell (x := ⟨g, k * 2 + 1, none⟩) hg _⟩
  · rw [heap_setCell_other _ _ _ _ (by exact fun e => hn.1 e.symm), heap_setCell_other _ _ _ _ (by exact fun e => hn.1 e.symm)]
    exact L.head
  · exact (L.row.far (heap_setCell_other _ _ _ _ (by exact fun e => hn.2 e.symm))).far (heap_setCell_other _ _ _ _ (by exact fun e => hn.2 e.symm))
/-- another directory -/
theorem Rf.newDir (H : Rf w q a F) {v' : Value} {l : List (Nat × Nat)} (hv : Dl w v' l) (hF : ∀ b, v'.ownBlock = some b → F b) :
    Rf (w.setCell ⟨q, 2, none⟩ v') q ⟨a.cells, a.low, l⟩ F ∧ Touch F w (w.setCell ⟨q, 2, none⟩ v') := by
  obtain ⟨h, cB, v, L, f1, f2, f3⟩ := H.lay
  have hn : ∀ b, v'.ownBlock = some b → b ≠ q := by
    intro b hb
    rcases hv.form with ⟨rfl, _⟩ | ⟨g, cap, cur, rfl, h2, _⟩
    · simp [Value.ownBlock] at hb
    · simp [Value.ownBlock] at hb
      subst hb
      rintro rfl
      have := L.head.symm.trans h2
      simp at this
  refine ⟨⟨⟨h, cB, v', ⟨?_, ?_, L.cap, ?_⟩, f1, f2, hF⟩, fun b hb => by simpa using H.below b hb⟩, (Touch.refl F w).setCell (x := ⟨q, 2, none⟩) f1 _⟩
  · rw [heap_setCell_same w q 2 _ _ _ L.head]; rfl
  · exact L.row.far (heap_setCell_other _ _ _ _ (by exact fun e => L.ne e.symm))
  · exact ownsRow_far hv fun b hb => heap_setCell_other _ _ _ _ (by exact hn b hb)
end

end Go.Proofs.Ytmandeohbiagfaa.Slot

namespace Go.Proofs.Ytmandeohbiagfaa.Page
open Go.RowKit
attribute [local go_sem ↓] Go.wp_at_zero Go.wp_at_succ

/-- block B holds a slice of these bytes, in a block behind it; ahead of B all is as it was -/
structure Wr (W0 w : World) (B : Nat) (xs : List UInt8) : Prop where
  ex : ∃ v, w.heap[B]? = some (.cells #[v] 45 (0, 0)) ∧ w.ownsRow (B + 1) 5 1 v xs.length (Lib.byteCells xs)
  below : Below B W0 w
theorem Wr.lt {W0 w : World} {B : Nat} {xs : List UInt8} (h : Wr W0 w B xs) : B < w.heap.size := by
  obtain ⟨v, h1, _⟩ := h.ex
  exact (Array.getElem?_eq_some_iff.1 h1).1
theorem own_shape {w : World} {b : Nat} {v : Value} {n : Nat} {xs : List Value} {e : TypeId} (h : w.ownsRow b e 1 v n xs) : (∃ ad cap, v = .slice ad n cap) := by
  rcases h.2 with ⟨h1, h2⟩ | ⟨g, cap, cur, h1, _⟩
  · subst h2; exact ⟨none, 0, h1⟩
  · exact ⟨_, cap, h1⟩
theorem Wr.later {W0 w w' : World} {B : Nat} {xs : List UInt8} (h : Wr W0 w B xs) (t : Below w.heap.size w w') : Wr W0 w' B xs := by
  obtain ⟨v, h1, h2⟩ := h.ex
  exact ⟨⟨v, (t.block B h.lt).trans h1, Slot.ownsRow_far h2 fun b hb => t.block b (h2.lt b hb).2⟩, h.below.trans (t.mono (Nat.le_of_lt h.lt))⟩
theorem Wr.next {W0 w w' : World} {B : Nat} {xs ys : List UInt8} {v v' : Value} (h : Wr W0 w B xs) (hv : w.ownsRow (B + 1) 5 1 v xs.length (Lib.byteCells xs)) (h2 : w'.ownsRow (B + 1) 5 1 v' (xs.length + ys.length) (Lib.byteCells xs ++ Lib.byteCells ys)) (g : w.grownBy w' v.ownBlock) :
    Wr W0 (w'.setCell ⟨B, 0, none⟩ v') B (xs ++ ys) := by
  obtain ⟨v0, h1, _⟩ := h.ex
  have hB := h.lt
  have hb : w'.heap[B]? = w.heap[B]? := g.block B hB fun e => by have := (hv.lt B e.symm).1; omega
  have hc := hb.trans h1
  refine ⟨⟨v', ?_, ?_⟩, ?_⟩
  · rw [heap_setCell_same w' B 0 _ _ _ hc]; rfl
  · have e1 : (xs ++ ys).length = xs.length + ys.length := List.length_append
    have e2 : Lib.byteCells (xs ++ ys) = Lib.byteCells xs ++ Lib.byteCells ys := by simp [Lib.byteCells]
    rw [e1, e2]
    exact Slot.ownsRow_far h2 fun b hb2 => heap_setCell_other _ _ _ _ (by
      have := (h2.lt b hb2).1
      exact fun e => by simp at e; omega)
  · exact (h.below.grown g (Nat.le_of_lt hB) (fun k hk => by have := (hv.lt k hk).1; omega)).setCell (Nat.le_refl _) _

/-- blocks of other things are as they were -/
def Keep (w w' : World) : Prop := ∀ (g : Nat) (cs : Array Value) (t : TypeId) (fz : Nat × Nat), w.heap[g]? = some (.cells cs t fz) → t ≠ 45 → t ≠ 5 → w'.heap[g]? = some (.cells cs t fz)
theorem Keep.below {w w' : World} (t : Below w.heap.size w w') : Keep w w' := fun g _cs _ty _fz h _ _ => (t.block g (Array.getElem?_eq_some_iff.1 h).1).trans h
theorem Keep.trans {a b c : World} (h : Keep a b) (k : Keep b c) : Keep a c := fun g cs ty fz h1 h2 h3 => k g cs ty fz (h g cs ty fz h1 h2 h3) h2 h3
theorem Keep.grown {w w' : World} {b n : Nat} {v : Value} {xs : List Value} (h : w.ownsRow b 5 1 v n xs) (g : w.grownBy w' v.ownBlock) : Keep w w' := fun g' cs ty fz h1 h2 h3 => by
  refine (g.block g' (Array.getElem?_eq_some_iff.1 h1).1 fun e => ?_).trans h1
  rcases h.2 with ⟨h4, _⟩ | ⟨g2, cap, cur, h4, _, h5, _⟩
  · subst h4; simp [Value.ownBlock] at e
  · subst h4
    simp [Value.ownBlock] at e
    subst e
    rw [h1] at h5
    simp at h5
    exact h3 h5.2.1
theorem Keep.set {w : World} {B k : Nat} {cs : Array Value} {fz : Nat × Nat} (h : w.heap[B]? = some (.cells cs 45 fz)) (v : Value) : Keep w (w.setCell ⟨B, k, none⟩ v) := fun g' cs' ty fz' h1 h2 h3 => by
  rw [heap_setCell_other _ _ _ _ (by
    show g' ≠ B
    rintro rfl
    rw [h1] at h
    simp at h
    exact h2 h.2.1)]
  exact h1

theorem put_is_yes (n m : Nat) (w : World) (h1 : 1 ≤ m) (h8 : m ≤ 8) (hn : n < 256 ^ m) (h64 : n < 18446744073709551616) :
    Calls Try.prog 42 #[.int .u64 (n : Int), .int .i64 (m : Int)] w fun e w' => e = .returned (.tuple #[.string (Slot.strB (be m n)), .bool true]) ∧ Below w.heap.size w w' := by
  have h := put_any (n : Int) (m : Int) w ⟨by omega, by omega⟩
  have e1 : putB (n : Int) (m : Int) = true := by
    unfold putB
    refine decide_eq_true ⟨by omega, by omega, ?_⟩
    rw [Int.toNat_natCast]
    have : n / 2 ^ (8 * m) = 0 := Nat.div_eq_of_lt (by rw [pow256]; exact hn)
    have e : ((n / 2 ^ (8 * m) : Nat) : Int) = (n : Int) / 2 ^ (8 * m) := by simp
    rw [← e, this]; rfl
  have e2 : putS (n : Int) (m : Int) = Slot.strB (be m n) := by
    unfold putS
    rw [if_pos e1, Int.toNat_natCast]
    unfold bytesOf
    rw [Int.toNat_natCast]
    rfl
  rw [e1, e2] at h
  exact h

set_option maxRecDepth 100000 in
set_option maxHeartbeats 1000000 in
theorem wr1_any {W0 w : World} {B : Nat} {xs : List UInt8} (h : Wr W0 w B xs) (n m : Nat) (h1 : 1 ≤ m) (h8 : m ≤ 8) (hn : n < 256 ^ m) (h64 : n < 18446744073709551616) (hx : xs.length ≤ 100000) :
    Calls Try.prog 41 #[.int .u64 (n : Int), .int .i64 (m : Int), .pointer (some ⟨B, 0, none⟩)] w fun e w' => e = .returned (.int .u64 (n : Int)) ∧ (Wr W0 w' B (xs ++ be m n) ∧ Keep w w') := by
  have P := Lib.hid (put_is_yes n m w h1 h8 hn h64)
  obtain ⟨i0, hi, hz0, hz1, hz2⟩ := info_parts Word.infoB
  have H := Lib.hid h
  obtain ⟨ys, hy⟩ : ∃ ys, ys = be m n := ⟨_, rfl⟩
  have hyl : ys.length ≤ 8 := by rw [hy, be_length]; omega
  rw [← hy] at P ⊢
  obtain ⟨st, hst⟩ : ∃ st, st = Slot.strB ys := ⟨_, rfl⟩
  have hss : st.size = ys.length := by rw [hst]; rfl
  have SC := Lib.hid (show Lib.strCells st = Lib.byteCells ys by rw [hst]; unfold Lib.strCells Lib.byteCells Slot.strB; rfl)
  rw [← hst] at P
  clear h hn hy h1 h8 hst
  go_enter Try.func41, Try.ntmps41
  go_wp2_with fail
  refine P.out.mono ?_
  rintro e w1 ⟨rfl, b1⟩
  have H1 := Lib.hid (H.out.later b1)
  obtain ⟨v, e1, e2⟩ := H1.out.ex
  have c1 : w1.cell? ⟨B, 0, none⟩ = some v := by rw [cell_of_row _ _ _ _ _ _ e1]; rfl
  have fz : w1.frozen? ⟨B, 0, none⟩ = false := frozen_of_row _ _ _ _ _ e1
  have OW := Lib.hid e2
  have E1 := Lib.hid e1
  have KP := Lib.hid (Keep.below b1)
  obtain ⟨ad, cap, rfl⟩ := own_shape e2
  have LT := Lib.hid H1.out.lt
  clear e1 e2 b1 P H
  go_wp2_with (at_builtin; refine Lib.wpList_append_own_string _ rfl _ _ 45 9 rfl (B + 1) 5 i0 Try.underlying45 Try.underlying9 hi hz0 hz1 hz2 _ _ _ rfl OW.out st rfl (by unfold maxLen; omega) (by omega) (by have := LT.out; omega) ?_)
  intro v1 w2 o1 g1 _
  obtain ⟨ad1, cap1, rfl⟩ := own_shape o1
  rw [SC.out] at o1
  have N2 := Lib.hid (H1.out.next OW.out o1 g1)
  have hb2 : w2.heap[B]? = w1.heap[B]? := g1.block B LT.out fun e => by have := (OW.out.lt B e.symm).1; omega
  have c2 : w2.cell? ⟨B, 0, none⟩ = some (.slice ad xs.length cap) := (World.cell?_of_block hb2).trans c1
  have fz2 : w2.frozen? ⟨B, 0, none⟩ = false := by
    obtain ⟨v0, e1, _⟩ := H1.out.ex
    exact frozen_of_row _ _ _ _ _ (hb2.trans e1)
  have KQ := Lib.hid (KP.out.trans ((Keep.grown OW.out g1).trans (Keep.set (k := 0) (hb2.trans E1.out) (.slice ad1 (xs.length + ys.length) cap1))))
  clear o1 g1 hb2 c1 fz
  go_wp2_with fail
  go_ret
  exact ⟨rfl, N2.out, KQ.out⟩

end Go.Proofs.Ytmandeohbiagfaa.Page

namespace Go.Proofs.Ytmandeohbiagfaa.Page
open Go.RowKit
attribute [local go_sem ↓] Go.wp_at_zero Go.wp_at_succ

/-- a call of this function enters it -/
def Enters (F : FuncId) : Prop := ∀ (args : Array Value) (w : World), Sem.run Try.prog (callFunc F args) w = .ok (.enter F args) w
set_option maxRecDepth 100000 in
theorem enters_write : Enters 41 := fun args w => by kernel_rfl
set_option maxRecDepth 100000 in
theorem enters_read : Enters 58 := fun args w => by kernel_rfl
/-- the part stands in the head's block, and may be written -/
def At (w : World) (hd k : Nat) : Prop := (∃ v, w.cell? ⟨hd, k, none⟩ = some v) ∧ w.frozen? ⟨hd, k, none⟩ = false

set_option maxRecDepth 100000 in
set_option maxHeartbeats 1000000 in
theorem kind_any {F : FuncId} {caps : Array Value} {w : World} {hd n m : Nat} {R : World → Prop} (hF : Enters F) (hc : w.cell? ⟨hd, 0, none⟩ = some (.int .u8 (n : Int))) (hn : n < 256) (_hm : m < 18446744073709551616)
    (C : Calls Try.prog F (#[.int .u64 (n : Int), .int .i64 1] ++ caps) w fun e w' => e = .returned (.int .u64 (m : Int)) ∧ R w')
    (hR : ∀ w', R w' → At w' hd 0) :
    Calls Try.prog 62 #[.pointer (some ⟨hd, 0, none⟩), .func (.func F) #[] caps] w fun e w' => e = .returned (.tuple #[]) ∧ ∃ w1, R w1 ∧ w' = w1.setCell ⟨hd, 0, none⟩ (.int .u8 ((m : Int) % 256)) := by
  have CC := Lib.hid C
  clear C
  go_enter Try.func62, Try.ntmps62
  go_wp2_with fail
  rw [hF, Oper.upon_enter]
  refine CC.out.mono ?_
  rintro e w1 ⟨rfl, hr⟩
  obtain ⟨⟨v, c1⟩, fz⟩ := hR w1 hr
  have HR := Lib.hid hr
  clear hr
  go_wp2_with fail
  go_end0
  exact ⟨rfl, w1, HR.out, rfl⟩

set_option maxRecDepth 100000 in
set_option maxHeartbeats 1000000 in
theorem level_any {F : FuncId} {caps : Array Value} {w : World} {hd n m : Nat} {R : World → Prop} (hF : Enters F) (hc : w.cell? ⟨hd, 1, none⟩ = some (.int .u8 (n : Int))) (hn : n < 256) (_hm : m < 18446744073709551616)
    (C : Calls Try.prog F (#[.int .u64 (n : Int), .int .i64 1] ++ caps) w fun e w' => e = .returned (.int .u64 (m : Int)) ∧ R w')
    (hR : ∀ w', R w' → At w' hd 1) :
    Calls Try.prog 63 #[.pointer (some ⟨hd, 0, none⟩), .func (.func F) #[] caps] w fun e w' => e = .returned (.tuple #[]) ∧ ∃ w1, R w1 ∧ w' = w1.setCell ⟨hd, 1, none⟩ (.int .u8 ((m : Int) % 256)) := by
  have CC := Lib.hid C
  clear C
  go_enter Try.func63, Try.ntmps63
  go_wp2_with fail
  rw [hF, Oper.upon_enter]
  refine CC.out.mono ?_
  rintro e w1 ⟨rfl, hr⟩
  obtain ⟨⟨v, c1⟩, fz⟩ := hR w1 hr
  have HR := Lib.hid hr
  clear hr
  go_wp2_with fail
  go_end0
  exact ⟨rfl, w1, HR.out, rfl⟩

set_option maxRecDepth 100000 in
set_option maxHeartbeats 1000000 in
theorem id_any {F : FuncId} {caps : Array Value} {w : World} {hd n m : Nat} {R : World → Prop} (hF : Enters F) (hc : w.cell? ⟨hd, 2, none⟩ = some (.int .u32 (n : Int))) (hn : n < 4294967296) (_hm : m < 18446744073709551616)
    (C : Calls Try.prog F (#[.int .u64 (n : Int), .int .i64 4] ++ caps) w fun e w' => e = .returned (.int .u64 (m : Int)) ∧ R w')
    (hR : ∀ w', R w' → At w' hd 2) :
    Calls Try.prog 64 #[.pointer (some ⟨hd, 0, none⟩), .func (.func F) #[] caps] w fun e w' => e = .returned (.tuple #[]) ∧ ∃ w1, R w1 ∧ w' = w1.setCell ⟨hd, 2, none⟩ (.int .u32 ((m : Int) % 4294967296)) := by
  have CC := Lib.hid C
  clear C
  go_enter Try.func64, Try.ntmps64
  go_wp2_with fail
  rw [hF, Oper.upon_enter]
  refine CC.out.mono ?_
  rintro e w1 ⟨rfl, hr⟩
  obtain ⟨⟨v, c1⟩, fz⟩ := hR w1 hr
  have HR := Lib.hid hr
  clear hr
  go_wp2_with fail
  go_end0
  exact ⟨rfl, w1, HR.out, rfl⟩

set_option maxRecDepth 100000 in
set_option maxHeartbeats 1000000 in
theorem lsn_any {F : FuncId} {caps : Array Value} {w : World} {hd n m : Nat} {R : World → Prop} (hF : Enters F) (hc : w.cell? ⟨hd, 3, none⟩ = some (.int .u64 (n : Int))) (_hn : n < 18446744073709551616) (_hm : m < 18446744073709551616)
    (C : Calls Try.prog F (#[.int .u64 (n : Int), .int .i64 8] ++ caps) w fun e w' => e = .returned (.int .u64 (m : Int)) ∧ R w')
    (hR : ∀ w', R w' → At w' hd 3) :
    Calls Try.prog 65 #[.pointer (some ⟨hd, 0, none⟩), .func (.func F) #[] caps] w fun e w' => e = .returned (.tuple #[]) ∧ ∃ w1, R w1 ∧ w' = w1.setCell ⟨hd, 3, none⟩ (.int .u64 (m : Int)) := by
  have CC := Lib.hid C
  clear C
  go_enter Try.func65, Try.ntmps65
  go_wp2_with fail
  rw [hF, Oper.upon_enter]
  refine CC.out.mono ?_
  rintro e w1 ⟨rfl, hr⟩
  obtain ⟨⟨v, c1⟩, fz⟩ := hR w1 hr
  have HR := Lib.hid hr
  clear hr
  go_wp2_with fail
  go_end0
  exact ⟨rfl, w1, HR.out, rfl⟩

set_option maxRecDepth 100000 in
set_option maxHeartbeats 1000000 in
theorem next_any {F : FuncId} {caps : Array Value} {w : World} {hd n m : Nat} {R : World → Prop} (hF : Enters F) (hc : w.cell? ⟨hd, 4, none⟩ = some (.int .u32 (n : Int))) (hn : n < 4294967296) (_hm : m < 18446744073709551616)
    (C : Calls Try.prog F (#[.int .u64 (n : Int), .int .i64 4] ++ caps) w fun e w' => e = .returned (.int .u64 (m : Int)) ∧ R w')
    (hR : ∀ w', R w' → At w' hd 4) :
    Calls Try.prog 66 #[.pointer (some ⟨hd, 0, none⟩), .func (.func F) #[] caps] w fun e w' => e = .returned (.tuple #[]) ∧ ∃ w1, R w1 ∧ w' = w1.setCell ⟨hd, 4, none⟩ (.int .u32 ((m : Int) % 4294967296)) := by
  have CC := Lib.hid C
  clear C
  go_enter Try.func66, Try.ntmps66
  go_wp2_with fail
  rw [hF, Oper.upon_enter]
  refine CC.out.mono ?_
  rintro e w1 ⟨rfl, hr⟩
  obtain ⟨⟨v, c1⟩, fz⟩ := hR w1 hr
  have HR := Lib.hid hr
  clear hr
  go_wp2_with fail
  go_end0
  exact ⟨rfl, w1, HR.out, rfl⟩

set_option maxRecDepth 100000 in
theorem spare_any {F : FuncId} {caps : Array Value} {w : World} {hd m : Nat} {R : World → Prop} (hF : Enters F)
    (C : Calls Try.prog F (#[.int .u64 0, .int .i64 2] ++ caps) w fun e w' => e = .returned (.int .u64 (m : Int)) ∧ R w') :
    Calls Try.prog 67 #[.pointer (some ⟨hd, 0, none⟩), .func (.func F) #[] caps] w fun e w' => e = .returned (.tuple #[]) ∧ R w' := by
  have CC := Lib.hid C
  clear C
  go_enter Try.func67, Try.ntmps67
  go_wp2_with fail
  rw [hF, Oper.upon_enter]
  refine CC.out.mono ?_
  rintro e w1 ⟨rfl, hr⟩
  have HR := Lib.hid hr
  clear hr
  go_wp2_with fail
  go_end0
  exact ⟨rfl, HR.out⟩

end Go.Proofs.Ytmandeohbiagfaa.Page
