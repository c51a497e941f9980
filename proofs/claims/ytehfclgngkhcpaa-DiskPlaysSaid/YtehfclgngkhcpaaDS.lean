/- Walks: Sure. -/
import Derived.Test.YtehfclgngkhcpaaDC
import Derived.Test.YtehfclgngkhcpaaShelf
import Derived.Laws.OwnMore
namespace Go.Proofs.Ytehfclgngkhcpaa.Disk
open Go.RowKit

theorem check_used {b : Nat} {w : World} (h0 : w.cell? ⟨b, 0, none⟩ = some (.pointer (some ⟨b, 0, none⟩))) :
    Calls Try.prog 91 #[.pointer (some ⟨b, 0, none⟩)] w fun e w' => e = .returned (.tuple #[]) ∧ w = w' := by
  obtain ⟨j, hj, _⟩ := Option.map_eq_some_iff.1 (show (Try.prog.info? 94).map (·.size) = some 2 by kernel_rfl)
  have q := fun w => Lib.run_neq_ptr_same (P := Try.prog) (w := w) ⟨b, 0, none⟩ Try.underlying92 hj
  clear hj
  go_enter Try.func91, Try.ntmps91
  go_wp2
  go_end0
  exact ⟨rfl, rfl⟩

theorem info5 : (Try.prog.info? 5).map (fun i => (i.zero, i.size, i.bytes)) = some (some (.int .u8 0), 1, 1) := by kernel_rfl

set_option maxHeartbeats 1000000 in
theorem bwrite {B b g o : Nat} {bs : List Value} {t : List UInt8} {w : World} (h : Lib.BuilderAt 94 5 B b (.pointer (some ⟨b, 0, none⟩)) bs w) (hr : w.rangeAt g o (Lib.byteCells t)) (ht : t.length = 128) (hn : bs.length ≤ 1000000000) (hBw : B ≤ w.heap.size) :
    Calls Try.prog 60 #[.pointer (some ⟨b, 0, none⟩), .slice (some ⟨g, o, none⟩) 128 128] w fun e w' => e = .returned (.tuple #[.int .i64 128, .nilIface]) ∧
      (Lib.BuilderAt 94 5 B b (.pointer (some ⟨b, 0, none⟩)) (bs ++ Lib.byteCells t) w' ∧ Below B w w') := by
  have m := check_used (w := w) h.cell0
  obtain ⟨hB, v, hb, hown, hne⟩ := h
  obtain ⟨i0, hi, hz0, hz1, hz2⟩ := info_parts info5
  have c1 : w.cell? ⟨b, 1, none⟩ = some v := by rw [cell_of_row w b 1 _ _ _ hb]; rfl
  have hfr := frozen_of_row w b 1 _ _ hb
  have hlt : b < w.heap.size := (Array.getElem?_eq_some_iff.1 hb).1
  have hl : (Lib.byteCells t).length = 128 := by rw [byteCells_len, ht]
  have hnews : ∀ j u, (Lib.byteCells t)[j]? = some u → w.cell? ((⟨g, o, none⟩ : Addr).add j) = some u := fun j u hu => by rw [Addr.add_mid]; exact hr j u hu
  have HN := Lib.hid hnews
  have HB := Lib.hid hb
  have HO := Lib.hid hown
  have HNE := Lib.hid hne
  have h1 := byteCells_one t
  have HH := Lib.hid h1
  clear hnews hb hown hne hr h1
  go_enter Try.func60, Try.ntmps60
  go_wp2_with (first | (go_at_call 91; refine m.mono ?_; rintro e w' ⟨rfl, rfl⟩) | (at_builtin; refine wpList_append_lies _ rfl _ _ _ rfl B 5 i0 _ 1 1 Try.underlying69 hi hz0 hz1 hz2 rfl (by omega) v bs.length bs (by rfl) HO.out ⟨g, o, none⟩ 128 128 (Lib.byteCells t) (by rfl) (by rw [hl]) HN.out HH.out (by omega) (by unfold maxLen; omega) (by omega) hBw _ rfl ?_))
  intro g2 cap2 w1 hown1 hgrow hat hlt2
  have hb1 : w1.heap[b]? = some (.cells #[.pointer (some ⟨b, 0, none⟩), v] 94 (0, 0)) := (hgrow.block b hlt (fun e => HNE.out e.symm)).trans HB.out
  have k1 : w1.cell? ⟨b, 1, none⟩ = some v := by rw [cell_of_row w1 b 1 _ _ _ hb1]; rfl
  have k2 := frozen_of_row w1 b 1 _ _ hb1
  have e5 : (bs ++ Lib.byteCells t).length = bs.length + 128 := by rw [List.length_append, hl]
  have hown2 : w1.ownsRow B 5 1 (.slice (some ⟨g2, 0, none⟩) (bs.length + 128) cap2) (bs ++ Lib.byteCells t).length (bs ++ Lib.byteCells t) := by rw [e5]; exact hown1
  have hput := Lib.BuilderAt.put hB hb1 hown2 (by decide)
  have hbel : Below B w w1 := (Below.refl B w).grown hgrow hBw (fun k hk => (HO.out.lt k hk).1)
  have HF := Lib.hid (show _ ∧ Below B w (w1.setCell ⟨b, 1, none⟩ (.slice (some ⟨g2, 0, none⟩) (bs.length + 128) cap2)) from ⟨hput, hbel.setCell hB _⟩)
  clear hput hbel hown1 hown2 hgrow hat hlt2 hb1 hfr c1 HO HB HN e5
  go_wp2_with fail
  go_ret2
  exact ⟨rfl, HF.out⟩

theorem take_flatten (ss : List (List UInt8)) (k : Nat) (h : k < ss.length) : Lib.byteCells (ss.take (k + 1)).flatten = Lib.byteCells (ss.take k).flatten ++ Lib.byteCells ss[k] := by
  rw [List.take_succ_eq_append_getElem h, List.flatten_append]
  simp [Lib.byteCells]
theorem flatten_len : ∀ (ss : List (List UInt8)), (∀ t ∈ ss, t.length = 128) → ss.flatten.length = ss.length * 128
  | [], _ => rfl
  | x :: r, h => by rw [List.flatten_cons, List.length_append, flatten_len r (fun t ht => h t (by simp [ht])), h x (by simp), List.length_cons]; omega

/-- the builder so far; nothing else has turned -/
def SureS (w : World) (d : D) (k : Nat) (wr : World) : Prop :=
  Lib.BuilderAt 94 5 w.heap.size w.heap.size (.pointer (some ⟨w.heap.size, 0, none⟩)) (Lib.byteCells (d.sure.take k).flatten) wr ∧ Below w.heap.size w wr

set_option maxRecDepth 100000 in
set_option maxHeartbeats 2000000 in
theorem sure_any {w : World} {p : Nat} {d : D} {F : Nat → Prop} (h : Rep w p d F) :
    Calls Try.prog 22 #[.pointer (some ⟨p, 0, none⟩)] w fun e w' => e = .returned (.string ⟨d.sure.flatten.toArray⟩) ∧ Below w.heap.size w w' := by
  have m := made_any h
  have hmost := h.ok.most
  have heach := Lib.hid h.ok.each
  obtain ⟨gs, sc, lv, mv, L, _⟩ := h.lay
  have B0 : Below w.heap.size w (w.alloc (.cells #[.pointer none, .slice none 0 0] 94)) := (Below.refl _ _).alloc (Nat.le_refl _) _
  have LL := Lib.hid L
  have mg := Try.Builder_Grow_fresh w.heap.size w.heap.size (d.sure.length * 128) (w.alloc (.cells #[.pointer none, .slice none 0 0] 94)) (Nat.le_refl _) (heap_alloc_new w _) (by simp) (by omega)
  have ec : ((d.sure.length * 128 : Nat) : Int) = (d.sure.length : Int) * 128 := by omega
  rw [ec] at mg
  have MG := Lib.hid mg
  have BB := Lib.hid B0
  have c0 := (L.later B0).cell0
  clear L h ec mg B0
  go_enter Try.func22, Try.ntmps22
  go_wp2_with (go_at_call 44; refine m.mono ?_; rintro e w' ⟨rfl, rfl⟩)
  refine MG.out.mono ?_
  rintro e w1 ⟨rfl, hA, hb⟩
  have S1 := Lib.hid (show SureS w d 0 w1 from ⟨hA, BB.out.trans hb⟩)
  have c1 := (LL.out.later S1.out.2).cell0
  clear hA hb MG BB c0 m
  go_wp2_with fail
  go_loopw [20] (fun i wr => ∃ k : Nat, k ≤ d.sure.length ∧ i = .int .i64 k ∧ SureS w d k wr) (fun i _ => d.sure.length - (intOf i).toNat)
  case atStart => exact ⟨0, by omega, by go_num, S1.out⟩
  case round =>
    obtain ⟨k, hk, rfl, hs⟩ := hrel
    clear S1 c1
    by_cases hlt : k < d.sure.length
    · have Lr := LL.out.later hs.2
      have c1 := Lr.cell0
      have ht : d.sure[k].length = 128 := heach.out _ (List.getElem_mem hlt)
      have hr := ownsRow_range Lr.sure (k * 128) (Lib.byteCells d.sure[k]) (fun j v hv => by
        have hj : j < (Lib.byteCells d.sure[k]).length := (List.getElem?_eq_some_iff.1 hv).1
        rw [byteCells_len, ht] at hj
        rw [flat_get heach.out (List.getElem?_eq_getElem hlt) (by omega), ← hv])
      have hfl : (Lib.byteCells (d.sure.take k).flatten).length ≤ 1000000000 := by
        rw [byteCells_len, flatten_len _ (fun t ht => heach.out t (List.mem_of_mem_take ht)), List.length_take]
        omega
      have hw := bwrite hs.1 hr ht hfl (by have := hs.2.size; omega)
      rw [← take_flatten d.sure k hlt] at hw
      have sl := slice_all wr gs (k * 128)
      have HW := Lib.hid hw
      have HB := Lib.hid hs.2
      have b1 : (k : Int) < (d.sure.length : Int) := by omega
      clear hw hs Lr hr ht hfl
      go_wp2_with fail
      refine HW.out.mono ?_
      rintro e w2 ⟨rfl, h2, t2⟩
      have H2 := Lib.hid (show SureS w d (k + 1) w2 from ⟨h2, HB.out.trans t2⟩)
      clear h2 t2 HW HB
      go_wp2_with fail
      go_roundw
      case rel => exact ⟨k + 1, by omega, by go_num, H2.out⟩
      case measure => simp [intOf]; omega
    · obtain rfl : k = d.sure.length := by omega
      have h2 := hs.1
      rw [List.take_length] at h2
      have st := Try.Builder_String_any w.heap.size w.heap.size d.sure.flatten wr (.inr h2) hs.2.size
      have ST := Lib.hid st
      have HB := Lib.hid hs.2
      clear st h2 hs
      go_wp2_with fail
      refine ST.out.mono ?_
      rintro e w2 ⟨rfl, t2⟩
      have H2 := Lib.hid (HB.out.trans t2)
      clear t2 ST HB
      go_wp2_with fail
      go_ret
      exact ⟨rfl, H2.out⟩

end Go.Proofs.Ytehfclgngkhcpaa.Disk
