/-
  Walks: Read.
-/
import Derived.Laws.IdiomStrings
import Derived.Test.YtgohpompgiljiaaZ14
namespace Go.Proofs.Ytgohpompgiljiaa.Disk
open Go.RowKit

set_option maxRecDepth 100000 in
theorem slice_all (w : World) (g o : Nat) : (Instr.sliceAt 92 (.pointer (some ⟨g, o, none⟩)) none none none).run Try.prog w = .ok (.slice (some ⟨g, o, none⟩) 128 128) w := by
  have ha : Try.prog.arrayLen 92 = 128 := by kernel_rfl
  have hz : (sizeOf (Try.prog.elem 92)).run Try.prog w = .ok 1 w := by kernel_rfl
  rw [run_sliceAt_array_all w 92 ⟨g, o, none⟩ (by kernel_rfl), ha, hz]
  simp [Result.andThen, slicedAt, Addr.add]
set_option maxRecDepth 100000 in
theorem conv_back (w : World) (g o : Nat) (l : List UInt8) (hl : l.length = 128) (hr : w.rangeAt g o (Lib.byteCells l)) :
    (convert 55 9 (.slice (some ⟨g, o, none⟩) 128 128)).run Try.prog w = .ok (.string ⟨l.toArray⟩) w := by
  have := run_convert_bytes_back (P := Try.prog) w 55 9 5 ⟨g, o, none⟩ 128 l Try.underlying55 Try.underlying5 Try.underlying9 (fun j hj => by
    rw [Addr.add_mid]
    exact hr j _ (by simp [Lib.byteCells, List.getElem?_eq_getElem hj]))
  rwa [hl] at this

set_option maxRecDepth 100000 in
theorem zeroInt (w : World) : (zeroValue 3).run Try.prog w = .ok (.int .i64 0) w := by kernel_rfl
theorem wf_nat {k : Nat} (h : k ≤ 9223372036854775807) : (Lit.int .i64 (k : Int)).wf = true := by
  have h1 : IntKind.i64.min ≤ (k : Int) := by have : IntKind.i64.min = -9223372036854775808 := by decide
                                              omega
  have h2 : (k : Int) ≤ IntKind.i64.max := by have : IntKind.i64.max = 9223372036854775807 := by decide
                                              omega
  show (decide (IntKind.i64.min ≤ (k : Int)) && decide ((k : Int) ≤ IntKind.i64.max)) = true
  rw [decide_eq_true h1, decide_eq_true h2]; rfl
set_option maxRecDepth 100000 in
/-- the map's answer -/
theorem Newest.look {w : World} {mv : Value} {l : List (Nat × List UInt8)} (h : Newest w mv l) (k : Nat) (hk : k ≤ 9223372036854775807) :
    ∃ c : Int, (Instr.lookup 82 mv (.int .i64 k) true).run Try.prog w = .ok (.tuple #[.int .i64 c, .bool (newest l k).isSome]) w ∧ ∀ i, newest l k = some i → c = i := by
  have K : Maps.Keyed Try.prog 3 := Maps.int_keyed Try.underlying3
  have hkey : keyOf Try.prog 3 (.int .i64 (k : Int)) = some (.int .i64 k) := Maps.keyOf_int_mk Try.underlying3 (wf_nat hk)
  rcases h with ⟨rfl, rfl⟩ | ⟨b, D, rfl, hown, hD⟩
  · exact ⟨0, by rw [Maps.look_nil true K Try.underlying82 (zeroInt w) hkey]; rfl, by simp [Disk.newest]⟩
  · obtain ⟨v, ps, hr, hv⟩ := hown.look_ok K Try.underlying82 (zeroInt w) (plainElem_int Try.underlying3 (by decide)) hkey
    obtain ⟨c, rfl, hc, _⟩ := plainElem_int_inv Try.underlying3 hv
    simp only [Prod.mk.injEq] at hc
    obtain ⟨h1, h2⟩ := hD k
    refine ⟨c, by rw [hr, h1], fun i hi => ?_⟩
    have := (h2 i hi).symm.trans hc.1
    simpa using this.symm

set_option maxRecDepth 100000 in
theorem read_nil (w : World) (k : Int) : Calls Try.prog 25 #[.pointer none, .int .i64 k] w fun e w' => e = .returned (.tuple #[.string ⟨#[]⟩, .int .i64 1]) ∧ w = w' := by
  have m := goes_nil w
  go_enter Try.func25, Try.ntmps25
  go_wp2_with (go_at_call 48; refine m.mono ?_; rintro e w' ⟨rfl, rfl⟩)
  go_ret2
  exact ⟨rfl, rfl⟩
set_option maxRecDepth 100000 in
theorem read_down {w : World} {p : Nat} {d : D} {F : Nat → Prop} (h : Rep w p d F) (hf : d.fuse = 0) (k : Int) : Calls Try.prog 25 #[.pointer (some ⟨p, 0, none⟩), .int .i64 k] w fun e w' => e = .returned (.tuple #[.string ⟨#[]⟩, .int .i64 40]) ∧ w = w' := by
  have m := goes_down h hf
  go_enter Try.func25, Try.ntmps25
  go_wp2_with (go_at_call 48; refine m.mono ?_; rintro e w' ⟨rfl, rfl⟩)
  go_ret2
  exact ⟨rfl, rfl⟩
set_option maxRecDepth 100000 in
theorem read_arg {w : World} {p : Nat} {d : D} {F : Nat → Prop} (h : Rep w p d F) (hf : d.fuse ≠ 0) (k : Int) (hk : hasB d.sure.length k = false) : Calls Try.prog 25 #[.pointer (some ⟨p, 0, none⟩), .int .i64 k] w fun e w' => e = .returned (.tuple #[.string ⟨#[]⟩, .int .i64 2]) ∧ w = w' := by
  have m := goes_on h hf
  have m2 := has_any h k
  rw [hk] at m2
  clear h hf hk
  go_enter Try.func25, Try.ntmps25
  go_wp2_with (first | (go_at_call 48; refine m.mono ?_; rintro e w' ⟨rfl, rfl⟩) | (go_at_call 49; refine m2.mono ?_; rintro e w' ⟨rfl, rfl⟩))
  go_ret2
  exact ⟨rfl, rfl⟩

set_option maxRecDepth 100000 in
set_option maxHeartbeats 1000000 in
theorem read_any {w : World} {p : Nat} {d : D} {F : Nat → Prop} (h : Rep w p d F) (hf : d.fuse ≠ 0) {k : Nat} (hk : k < d.sure.length) :
    Calls Try.prog 25 #[.pointer (some ⟨p, 0, none⟩), .int .i64 k] w fun e w' => e = .returned (.tuple #[.string ⟨(now d k).toArray⟩, .int .i64 0]) ∧ w = w' := by
  have m := goes_on h hf
  have m2 := has_any h k
  have e1 : hasB d.sure.length k = true := decide_eq_true (by omega)
  rw [e1] at m2
  have hnl := now_len h.ok hk
  have hmost := h.ok.most
  obtain ⟨gs, sc, lv, mv, L, _⟩ := h.lay
  have c0 := L.cell0
  have c1 := L.cell1
  have c2 := L.cell2
  obtain ⟨c, hlook, hc⟩ := L.newest.look k (by omega)
  obtain ⟨t, ht⟩ : ∃ t, t = now d k := ⟨_, rfl⟩
  rw [← ht] at hnl ⊢
  cases hn : newest d.loose k with
  | none =>
    rw [hn] at hlook
    have ht2 : d.sure[k]? = some t := by rw [ht]; unfold now; rw [hn]; simp [hk]
    have hr := ownsRow_range L.sure (k * 128) (Lib.byteCells t) (fun j v hv => by
      have hj : j < (Lib.byteCells t).length := (List.getElem?_eq_some_iff.1 hv).1
      rw [byteCells_len, hnl] at hj
      rw [flat_get h.ok.each ht2 (by omega), ← hv])
    have hsl := slice_all w gs (k * 128)
    have hcv := conv_back w gs (k * 128) t hnl hr
    have b1 : (k : Int) < (d.sure.length : Int) := by omega
    clear hr ht2 ht hn hc L h hf hk e1 hnl hmost
    go_enter Try.func25, Try.ntmps25
    go_wp2_with (first | (go_at_call 48; refine m.mono ?_; rintro e w' ⟨rfl, rfl⟩) | (go_at_call 49; refine m2.mono ?_; rintro e w' ⟨rfl, rfl⟩))
    go_ret2
    exact ⟨rfl, rfl⟩
  | some i =>
    rw [hn, hc i hn] at hlook
    obtain ⟨t', hx⟩ := newest_at k _ i hn
    have hil := newest_lt k _ i hn
    have hti : t = t' := by rw [ht]; unfold now; rw [hn]; simp [List.getD, hx]
    subst hti
    have hw2 : ∀ y ∈ d.loose, y.2.length = 128 := fun y hy => (h.ok.there y hy).2
    obtain ⟨g, cap, hlv, _, hg⟩ := L.loose.form (by omega)
    subst hlv
    have hr := ownsRow_range L.loose (i * 129 + 1) (Lib.byteCells t) (fun j v hv => by
      have hj : j < (Lib.byteCells t).length := (List.getElem?_eq_some_iff.1 hv).1
      rw [byteCells_len, hnl] at hj
      rw [Nat.add_assoc, flatW_get hw2 hx (by omega), ← hv, Nat.add_comm 1 j]; rfl)
    have hsl := slice_all w g (i * 129 + 1)
    have hcv := conv_back w g (i * 129 + 1) t hnl hr
    have b1 : (i : Int) < (d.loose.length : Int) := by omega
    clear hr hx ht hn hc L h hf hk e1 hnl hmost hil hg hw2
    go_enter Try.func25, Try.ntmps25
    go_wp2_with (first | (go_at_call 48; refine m.mono ?_; rintro e w' ⟨rfl, rfl⟩) | (go_at_call 49; refine m2.mono ?_; rintro e w' ⟨rfl, rfl⟩))
    go_ret2
    exact ⟨rfl, rfl⟩

end Go.Proofs.Ytgohpompgiljiaa.Disk
