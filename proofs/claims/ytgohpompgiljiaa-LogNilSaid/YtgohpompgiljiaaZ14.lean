/-
  Walks: Sync, Crash, Fuse, Len, Loose.
  Walks: Crash.
-/
import Derived.WalkMore
import Derived.Outline
import Derived.Test.YtgohpompgiljiaaZ13
namespace Go.Proofs.Ytgohpompgiljiaa.Disk
open Go.RowKit

set_option maxRecDepth 100000 in
theorem sync_nil (w : World) : Calls Try.prog 34 #[.pointer none] w fun e w' => e = .returned (.int .i64 1) ∧ w = w' := by
  have m := goes_nil w
  go_enter Try.func34, Try.ntmps34
  go_wp2_with (go_at_call 48; refine m.mono ?_; rintro e w' ⟨rfl, rfl⟩)
  go_ret
  exact ⟨rfl, rfl⟩
set_option maxRecDepth 100000 in
theorem sync_down {w : World} {p : Nat} {d : D} {F : Nat → Prop} (h : Rep w p d F) (hf : d.fuse = 0) : Calls Try.prog 34 #[.pointer (some ⟨p, 0, none⟩)] w fun e w' => e = .returned (.int .i64 40) ∧ w = w' := by
  have m := goes_down h hf
  go_enter Try.func34, Try.ntmps34
  go_wp2_with (go_at_call 48; refine m.mono ?_; rintro e w' ⟨rfl, rfl⟩)
  go_ret
  exact ⟨rfl, rfl⟩

/-- some of the writes are sure -/
def Part (p : Nat) (d : D) (F : Nat → Prop) (w : World) (s : List (List UInt8)) (wr : World) : Prop := Rep wr p ⟨s, d.loose, d.fuse⟩ F ∧ Touch F w wr

set_option maxRecDepth 100000 in
set_option maxHeartbeats 2000000 in
theorem sync_any {w : World} {p : Nat} {d : D} {F : Nat → Prop} (h : Rep w p d F) (hf : d.fuse ≠ 0) (hl : d.loose.length ≤ 4611686018427387904) :
    Calls Try.prog 34 #[.pointer (some ⟨p, 0, none⟩)] w fun e w' => e = .returned (.int .i64 0) ∧ (Rep w' p d.sync F ∧ Touch F w w') := by
  have m := goes_on h hf
  have P0 : Part p d F w (settleAll d.sure (d.loose.take 0)) w := ⟨h, Touch.refl _ _⟩
  have HP := Lib.hid P0
  obtain ⟨gs, sc, lv, mv, L, _⟩ := h.lay
  have c1 := L.cell1
  have hlv : ∃ a cap, lv = .slice a d.loose.length cap := by
    rcases L.loose.2 with ⟨h1, h2⟩ | ⟨g, cap, cur, h1, _⟩
    · exact ⟨none, 0, by rw [h1, h2]⟩
    · exact ⟨_, _, h1⟩
  obtain ⟨a, cap, rfl⟩ := hlv
  clear L hf P0 h
  go_enter Try.func34, Try.ntmps34
  go_wp2_with (go_at_call 48; refine m.mono ?_; rintro e w' ⟨rfl, rfl⟩)
  clear m
  go_loopw [15] (fun i wr => ∃ k : Nat, k ≤ d.loose.length ∧ i = .int .i64 k ∧ Part p d F w (settleAll d.sure (d.loose.take k)) wr) (fun i _ => d.loose.length - (intOf i).toNat)
  case atStart => exact ⟨0, by omega, by go_num, HP.out⟩
  case round =>
    obtain ⟨k, hk, rfl, hp⟩ := hrel
    clear HP c1
    by_cases hlt : k < d.loose.length
    · have hx : d.loose[k]? = some d.loose[k] := List.getElem?_eq_getElem hlt
      have hc := settle_any hp.1 (i := k) hx
      have e1 : settle (settleAll d.sure (d.loose.take k)) d.loose[k] = settleAll d.sure (d.loose.take (k + 1)) := by
        rw [List.take_succ_eq_append_getElem hlt, settleAll_snoc]
      have HC := Lib.hid hc
      have T := Lib.hid hp.2
      have E := Lib.hid e1
      clear hc hp e1 hx
      go_wp2_with fail
      refine HC.out.mono ?_
      rintro e w' ⟨rfl, hr⟩
      rw [E.out] at hr
      have hp2 : Part p d F w (settleAll d.sure (d.loose.take (k + 1))) w' := ⟨hr.1, T.out.trans' hr.2⟩
      have HP2 := Lib.hid hp2
      clear hp2 hr HC T E
      go_wp2_with fail
      go_roundw
      case rel => exact ⟨k + 1, by omega, by go_num, HP2.out⟩
      case measure => simp [intOf]; omega
    · obtain rfl : k = d.loose.length := by omega
      rw [List.take_length] at hp
      have hc := forget_any hp.1
      have HC := Lib.hid hc
      have T := Lib.hid hp.2
      clear hc hp
      go_wp2_with fail
      refine HC.out.mono ?_
      rintro e w1 ⟨rfl, h1, t1⟩
      have T1 := Lib.hid (T.out.trans' t1)
      have hb := Lib.hid (burn_any h1)
      clear HC T h1 t1
      go_wp2_with fail
      refine hb.out.mono ?_
      rintro e w2 ⟨rfl, h2, t2⟩
      have HH := Lib.hid (show Rep w2 p d.sync F ∧ Touch F w w2 from ⟨h2, T1.out.trans' t2⟩)
      clear h2 t2 T1 hb
      go_wp2_with fail
      go_ret
      exact ⟨rfl, HH.out⟩

set_option maxRecDepth 100000 in
theorem fuse_nil (w : World) (n : Int) : Calls Try.prog 15 #[.pointer none, .int .i64 n] w fun e w' => e = .returned (.int .i64 1) ∧ w = w' := by
  have m := made_nil w
  go_enter Try.func15, Try.ntmps15
  go_wp2_with (go_at_call 39; refine m.mono ?_; rintro e w' ⟨rfl, rfl⟩)
  go_ret
  exact ⟨rfl, rfl⟩
set_option maxRecDepth 100000 in
theorem fuse_arg {w : World} {p : Nat} {d : D} {F : Nat → Prop} (h : Rep w p d F) {n : Int} (hn : n < 0) : Calls Try.prog 15 #[.pointer (some ⟨p, 0, none⟩), .int .i64 n] w fun e w' => e = .returned (.int .i64 2) ∧ w = w' := by
  have m := made_any h
  have e1 : decide (n < 0) = true := decide_eq_true hn
  clear hn h
  go_enter Try.func15, Try.ntmps15
  go_wp2_with (go_at_call 39; refine m.mono ?_; rintro e w' ⟨rfl, rfl⟩)
  go_ret
  exact ⟨rfl, rfl⟩
set_option maxRecDepth 100000 in
theorem fuse_any {w : World} {p : Nat} {d : D} {F : Nat → Prop} (h : Rep w p d F) {n : Int} (hn : 0 ≤ n) (hn2 : n ≤ 9223372036854775807) :
    Calls Try.prog 15 #[.pointer (some ⟨p, 0, none⟩), .int .i64 n] w fun e w' => e = .returned (.int .i64 0) ∧ (Rep w' p (d.setFuse n) F ∧ Touch F w w') := by
  have m := made_any h
  have e1 : decide (n < 0) = false := decide_eq_false (by omega)
  have hs := Lib.hid (h.setFuse (n := n) (by omega) hn2)
  obtain ⟨gs, sc, lv, mv, L, _⟩ := h.lay
  have c3 := L.cell3
  have fr := L.free 3
  clear hn hn2 h L
  go_enter Try.func15, Try.ntmps15
  go_wp2_with (go_at_call 39; refine m.mono ?_; rintro e w' ⟨rfl, rfl⟩)
  go_ret
  exact ⟨rfl, hs.out⟩

set_option maxRecDepth 100000 in
theorem len_nil (w : World) : Calls Try.prog 24 #[.pointer none] w fun e w' => e = .returned (.int .i64 0) ∧ w = w' := by
  have m := made_nil w
  go_enter Try.func24, Try.ntmps24
  go_wp2_with (go_at_call 39; refine m.mono ?_; rintro e w' ⟨rfl, rfl⟩)
  go_ret
  exact ⟨rfl, rfl⟩
set_option maxRecDepth 100000 in
theorem len_any {w : World} {p : Nat} {d : D} {F : Nat → Prop} (h : Rep w p d F) : Calls Try.prog 24 #[.pointer (some ⟨p, 0, none⟩)] w fun e w' => e = .returned (.int .i64 d.sure.length) ∧ w = w' := by
  have m := made_any h
  obtain ⟨gs, sc, lv, mv, L, _⟩ := h.lay
  have c0 := L.cell0
  clear h L
  go_enter Try.func24, Try.ntmps24
  go_wp2_with (go_at_call 39; refine m.mono ?_; rintro e w' ⟨rfl, rfl⟩)
  go_ret
  exact ⟨rfl, rfl⟩
theorem Lay.loose_form {w : World} {p gs sc : Nat} {lv mv : Value} {d : D} (L : Lay w p gs sc lv mv d) : ∃ a cap, lv = .slice a d.loose.length cap := by
  rcases L.loose.2 with ⟨h1, h2⟩ | ⟨g, cap, cur, h1, _⟩
  · exact ⟨none, 0, by rw [h1, h2]⟩
  · exact ⟨_, _, h1⟩
end Go.Proofs.Ytgohpompgiljiaa.Disk

namespace Go.Proofs.Ytgohpompgiljiaa.Disk
open Go.RowKit

set_option maxRecDepth 100000 in
theorem crash_nil (w : World) (v : Value) : Calls Try.prog 16 #[.pointer none, v] w fun e w' => e = .returned (.int .i64 1) ∧ w = w' := by
  have m := made_nil w
  go_enter Try.func16, Try.ntmps16
  go_wp2_with fail
  go_step3
  go_wp2_with (go_at_call 39; refine m.mono ?_; rintro e w' ⟨rfl, rfl⟩)
  rw [Exit.noGoto_ret]
  go_ret
  exact ⟨rfl, rfl⟩

/-- v is a slice of these truths -/
def Bools (w : World) (v : Value) (l : List Bool) : Prop :=
  ∃ a c, v = .slice a l.length c ∧ ∀ j b, l[j]? = some b → ∃ x o, a = some ⟨x, o, none⟩ ∧ w.cell? ⟨x, o + j, none⟩ = some (.bool b)
theorem Bools.far {w w' : World} {v : Value} {l : List Bool} (h : Bools w v l) (hk : ∀ b, v.ownBlock = some b → b < w.heap.size → w'.heap[b]? = w.heap[b]?) : Bools w' v l := by
  obtain ⟨a, c, rfl, hc⟩ := h
  refine ⟨a, c, rfl, fun j b hb => ?_⟩
  obtain ⟨x, o, rfl, h2⟩ := hc j b hb
  exact ⟨x, o, rfl, (World.cell?_of_block (hk x rfl (block_lt_of_cell h2))).trans h2⟩

set_option maxRecDepth 100000 in
set_option maxHeartbeats 2000000 in
theorem crash_any {w : World} {p : Nat} {d : D} {F : Nat → Prop} (h : Rep w p d F) (hl : d.loose.length ≤ 4611686018427387904) {kv : Value} {keep : List Bool} (hk : Bools w kv keep) (_hkl : keep.length ≤ 4611686018427387904) (hF : ∀ b, kv.ownBlock = some b → ¬ F b) :
    Calls Try.prog 16 #[.pointer (some ⟨p, 0, none⟩), kv] w fun e w' => e = .returned (.int .i64 0) ∧ (Rep w' p (d.crash keep) F ∧ Touch F w w') := by
  have m := made_any h
  have P0 : Part p d F w (settleAll d.sure (kept (d.loose.take 0) keep)) w := ⟨by simp only [List.take_zero, kept]; exact h, Touch.refl _ _⟩
  have HP := Lib.hid P0
  have HK := Lib.hid hk
  have HF := Lib.hid hF
  obtain ⟨gs, sc, lv, mv, L, _⟩ := h.lay
  have c1 := L.cell1
  obtain ⟨a, cap, rfl⟩ := L.loose_form
  obtain ⟨ka, kc, rfl, _⟩ := hk
  clear L P0 h hF
  go_enter Try.func16, Try.ntmps16
  go_wp2_with fail
  go_step3
  go_wp2_with (go_at_call 39; refine m.mono ?_; rintro e w' ⟨rfl, rfl⟩)
  clear m
  go_step3
  go_wp2_with fail
  go_loopw [14] (fun i wr => ∃ k : Nat, k ≤ d.loose.length ∧ i = .int .i64 k ∧ Part p d F w (settleAll d.sure (kept (d.loose.take k) keep)) wr) (fun i _ => d.loose.length - (intOf i).toNat)
  case atStart => exact ⟨0, by omega, by go_num, HP.out⟩
  case round =>
    obtain ⟨k, hk, rfl, hp⟩ := hrel
    clear HP c1
    by_cases hlt : k < d.loose.length
    · have hx : d.loose[k]? = some d.loose[k] := List.getElem?_eq_getElem hlt
      have hkt := kept_take k d.loose keep _ hx
      by_cases hin : k < keep.length
      · have g1 : decide (keep.length ≤ k) = false := decide_eq_false (by omega)
        have hb : keep[k]? = some keep[k] := List.getElem?_eq_getElem hin
        obtain ⟨ka', kc', hv, hcell⟩ := HK.out
        obtain ⟨x, o, rfl, hcl0⟩ := hcell k _ hb
        clear hcell
        simp at hv
        obtain ⟨rfl, rfl⟩ := hv
        have hcl : wr.cell? ⟨x, o + k, none⟩ = some (.bool keep[k]) := (World.cell?_of_block (hp.2.block x (block_lt_of_cell hcl0) (HF.out x rfl))).trans hcl0
        rw [hb] at hkt
        by_cases hbt : keep[k] = true
        · rw [hbt] at hcl hkt
          rw [if_pos rfl] at hkt
          have hc := settle_any hp.1 (i := k) hx
          have e1 : settle (settleAll d.sure (kept (d.loose.take k) keep)) d.loose[k] = settleAll d.sure (kept (d.loose.take (k + 1)) keep) := by rw [hkt, settleAll_snoc]
          have HC := Lib.hid hc
          have T := Lib.hid hp.2
          have E := Lib.hid e1
          clear hc hp e1 hx hkt hb hbt hcl0
          go_wp2_with fail
          refine HC.out.mono ?_
          rintro e w' ⟨rfl, hr⟩
          rw [E.out] at hr
          have hp2 : Part p d F w (settleAll d.sure (kept (d.loose.take (k + 1)) keep)) w' := ⟨hr.1, T.out.trans' hr.2⟩
          have HP2 := Lib.hid hp2
          clear hp2 hr HC T E
          go_wp2_with fail
          go_roundw
          case rel => exact ⟨k + 1, by omega, by go_num, HP2.out⟩
          case measure => simp [intOf]; omega
        · have hbf : keep[k] = false := by simpa using hbt
          rw [hbf] at hcl hkt
          rw [if_neg (by simp)] at hkt
          rw [← hkt] at hp
          have HP2 := Lib.hid hp
          clear hp hx hkt hb hbt hcl0 hbf
          go_wp2_with fail
          go_roundw
          case rel => exact ⟨k + 1, by omega, by go_num, HP2.out⟩
          case measure => simp [intOf]; omega
      · have g1 : decide (keep.length ≤ k) = true := decide_eq_true (by omega)
        have hb : keep[k]? = none := List.getElem?_eq_none (by omega)
        rw [hb, if_neg (by simp)] at hkt
        rw [← hkt] at hp
        have HP2 := Lib.hid hp
        clear hp hx hkt hb
        go_wp2_with fail
        go_roundw
        case rel => exact ⟨k + 1, by omega, by go_num, HP2.out⟩
        case measure => simp [intOf]; omega
    · obtain rfl : k = d.loose.length := by omega
      rw [List.take_length] at hp
      have hc := forget_any hp.1
      have HC := Lib.hid hc
      have T := Lib.hid hp.2
      clear hc hp
      go_wp2_with fail
      refine HC.out.mono ?_
      rintro e w1 ⟨rfl, h1, t1⟩
      have T1 := Lib.hid (T.out.trans' t1)
      obtain ⟨gs', sc', lv', mv', L', _⟩ := h1.lay
      have c3 := L'.cell3
      have fr := L'.free 3
      have hs := h1.setFuse (n := -1) (by omega) (by omega)
      have HH := Lib.hid (show Rep (w1.setCell ⟨p, 3, none⟩ (.int .i64 (-1))) p (d.crash keep) F ∧ Touch F w (w1.setCell ⟨p, 3, none⟩ (.int .i64 (-1))) from ⟨hs.1, T1.out.trans' hs.2⟩)
      clear HC T h1 t1 T1 L' hs
      go_wp2_with fail
      rw [Exit.noGoto_ret]
      go_ret
      exact ⟨rfl, HH.out⟩

end Go.Proofs.Ytgohpompgiljiaa.Disk
