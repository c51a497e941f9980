/- Walks: the document's bytes of a row. -/
import Derived.Test.YtobnenjhmkbdoaaDoorOW3
import Derived.Laws.MakeOwn
namespace Go.Proofs.YtobnenjhmkbdoaaDoor.Row
open Go.RowKit
attribute [local go_sem ↓] Go.wp_at_zero Go.wp_at_succ

set_option maxRecDepth 100000 in
theorem zeros_conv (W : World) (m : Nat) : (convert 57 9 (.slice (some ⟨W.heap.size, 0, none⟩) m m)).run Tryd.prog (W.alloc (.cells (madeCells (Value.int .u8 0).cells m) 5)) = .ok (.string (zerS m)) (W.alloc (.cells (madeCells (Value.int .u8 0).cells m) 5)) := by
  have h := run_convert_bytes_back (P := Tryd.prog) (W.alloc (.cells (madeCells (Value.int .u8 0).cells m) 5)) 57 9 5 ⟨W.heap.size, 0, none⟩ m (List.replicate m 0) Tryd.underlying57 Tryd.underlying5 Tryd.underlying9 (by
    intro j hj
    rw [List.length_replicate] at hj
    have e : (⟨W.heap.size, 0, none⟩ : Addr).add j = ⟨W.heap.size, j, none⟩ := by simp [Addr.add]; omega
    rw [e, World.cell?_alloc_mark]
    unfold madeCells
    simp [Value.cells, hj, Nat.mod_one])
  rw [List.length_replicate] at h
  exact h
set_option maxRecDepth 100000 in
theorem zeros_make (W : World) (m : Nat) (hm : m ≤ 1000000) : (Instr.makeSlice 57 (.int .i64 (m : Int)) (.int .i64 (m : Int))).run Tryd.prog W = .ok (.slice (some ⟨W.heap.size, 0, none⟩) m m) (W.alloc (.cells (madeCells (Value.int .u8 0).cells m) 5)) := by
  obtain ⟨i0, hi, hz0, hz1, hz2⟩ := info_parts Word.infoB
  have h := run_make (P := Tryd.prog) W 57 5 i0 (.int .u8 0) Tryd.underlying57 hi hz0 .i64 .i64 (m : Int) (m : Int) (by omega) (by omega) (by rw [hz2]; omega) (by omega)
  simpa [hz1] using h

set_option maxRecDepth 100000 in
set_option maxHeartbeats 1000000 in
theorem rencode_no (r : Rw) (w : World) (hr : r.wf) (hm : mayR r = false) :
    Calls Tryd.prog 11 #[rwV r] w fun e w' => e = .returned (.tuple #[.string ⟨#[]⟩, .int .i64 2]) ∧ Below w.heap.size w w' := by
  have K := rmay_any r (w.alloc (.cells (rwC r) 28)) hr
  rw [hm] at K
  have KK := Lib.hid K
  have B := Lib.hid (below_new w (.cells (rwC r) 28))
  clear K hm hr
  unfold rwV rwC at *
  go_enter Tryd.func11, Tryd.ntmps11
  go_wp2_with fail
  refine KK.out.mono ?_
  rintro e w1 ⟨rfl, b1⟩
  have B1 := Lib.hid (B.out.trans (b1.mono B.out.size))
  clear b1 B
  go_wp2_with fail
  go_ret2
  exact ⟨rfl, B1.out⟩

set_option maxRecDepth 100000 in
set_option maxHeartbeats 4000000 in
theorem rencode_yes (r : Rw) (w : World) (hr : r.wf) (hm : mayR r = true) :
    Calls Tryd.prog 11 #[rwV r] w fun e w' => e = .returned (.tuple #[.string (encS r), .int .i64 0]) ∧ Below w.heap.size w w' := by
  have hp := may_parts hm
  have T0 := Lib.hid (Bx.start w r)
  have KM := Lib.hid (fun W => rmay_any r W hr)
  have emk : markN r = if r.mark = true then 1 else 0 := rfl
  have lmk : markN r < 256 := by rw [emk]; split <;> omega
  have K0 := Lib.hid (fun W => (show Calls Tryd.prog 25 #[.int .u64 (markN r : Int), .int .i64 1] W fun e w' => e = .returned (.string (nb 1 (markN r))) ∧ Below W.heap.size W w' from rnumber_any (markN r) 1 W (by decide) (by decide) (by omega)))
  have K1 := Lib.hid (fun W => (show Calls Tryd.prog 25 #[.int .u64 (r.tx : Int), .int .i64 8] W fun e w' => e = .returned (.string (nb 8 r.tx)) ∧ Below W.heap.size W w' from rnumber_any r.tx 8 W (by decide) (by decide) (by have := hr.tx; omega)))
  have K2 := Lib.hid (fun W => (show Calls Tryd.prog 25 #[.int .u64 (r.page : Int), .int .i64 4] W fun e w' => e = .returned (.string (nb 4 r.page)) ∧ Below W.heap.size W w' from rnumber_any r.page 4 W (by decide) (by decide) (by have := hr.page; omega)))
  have K3 := Lib.hid (fun W => (show Calls Tryd.prog 25 #[.int .u64 (r.slot : Int), .int .i64 2] W fun e w' => e = .returned (.string (nb 2 r.slot)) ∧ Below W.heap.size W w' from rnumber_any r.slot 2 W (by decide) (by decide) (by have := hr.slot; omega)))
  have K4 := Lib.hid (fun W => (show Calls Tryd.prog 25 #[.int .u64 (r.key.size : Int), .int .i64 1] W fun e w' => e = .returned (.string (nb 1 r.key.size)) ∧ Below W.heap.size W w' from rnumber_any r.key.size 1 W (by decide) (by decide) (by omega)))
  have K5 := Lib.hid (fun W => (show Calls Tryd.prog 25 #[.int .u64 (r.value.size : Int), .int .i64 1] W fun e w' => e = .returned (.string (nb 1 r.value.size)) ∧ Below W.heap.size W w' from rnumber_any r.value.size 1 W (by decide) (by decide) (by omega)))
  have e6 : r.pad = (r.pad.toNat : Int) := by omega
  rw [hm] at KM
  have e : encS r = nb 1 (markN r) ++ nb 8 r.tx ++ nb 4 r.page ++ nb 2 r.slot ++ nb 1 r.key.size ++ r.key ++ nb 1 r.value.size ++ r.value ++ zerS r.pad.toNat := by
    unfold encS
    rw [if_pos hm]
    simp only [bodyS, headS, tx1, ByteArray.append_assoc]
  have z0 := nb_size 1 (markN r)
  have z1 := nb_size 8 r.tx
  have z2 := nb_size 4 r.page
  have z3 := nb_size 2 r.slot
  have z4 := nb_size 1 r.key.size
  have z5 := nb_size 1 r.value.size
  have z6 : (zerS r.pad.toNat).size ≤ 96 := by rw [zerS_size]; omega
  have z7 : r.key.size ≤ 48 := hp.2.1
  have z8 : r.value.size ≤ 96 := by omega
  have q2 : IntKind.u64.wrap (r.page : Int) = r.page := by have := hr.page; rw [IntKind.wrap_u64]; omega
  have q3 : IntKind.u64.wrap (r.slot : Int) = r.slot := by have := hr.slot; rw [IntKind.wrap_u64]; omega
  have q4 : IntKind.u64.wrap (r.key.size : Int) = r.key.size := by rw [IntKind.wrap_u64]; omega
  have q5 : IntKind.u64.wrap (r.value.size : Int) = r.value.size := by rw [IntKind.wrap_u64]; omega
  obtain ⟨n, hn⟩ : ∃ n, n = r.pad.toNat := ⟨_, rfl⟩
  rw [← hn] at e e6 z6
  have n96 : n ≤ 96 := by omega
  have hmk : ∀ W : World, (Instr.makeSlice 57 (.int .i64 r.pad) (.int .i64 r.pad)).run Tryd.prog W = .ok (.slice (some ⟨W.heap.size, 0, none⟩) n n) (W.alloc (.cells (madeCells (Value.int .u8 0).cells n) 5)) := fun W => by rw [e6]; exact zeros_make W n (by omega)
  have hcv := fun W => zeros_conv W n
  clear hp hr hm hn lmk e6
  obtain ⟨M, hM⟩ : ∃ M, M = madeCells (Value.int .u8 0).cells n := ⟨_, rfl⟩
  rw [← hM] at hmk hcv
  clear hM
  obtain ⟨a0, a1, a2, a3, a4, a5, a6⟩ := T0.out.all
  unfold rwV rwC at *
  generalize encS r = S at *
  generalize hmk2 : markN r = mk at *
  clear hmk2
  generalize nb 1 mk = A0 at *
  generalize nb 8 r.tx = A1 at *
  generalize nb 4 r.page = A2 at *
  generalize nb 2 r.slot = A3 at *
  generalize nb 1 r.key.size = A4 at *
  generalize nb 1 r.value.size = A5 at *
  have E := Lib.hid e
  have s1 : (9223372036854775807 < A0.size + A1.size) = False := by simp only [eq_iff_iff, iff_false]; omega
  have s2 : (9223372036854775807 < A0.size + A1.size + A2.size) = False := by simp only [eq_iff_iff, iff_false]; omega
  have s3 : (9223372036854775807 < A0.size + A1.size + A2.size + A3.size) = False := by simp only [eq_iff_iff, iff_false]; omega
  have s4 : (9223372036854775807 < A0.size + A1.size + A2.size + A3.size + A4.size) = False := by simp only [eq_iff_iff, iff_false]; omega
  have s5 : (9223372036854775807 < A0.size + A1.size + A2.size + A3.size + A4.size + r.key.size) = False := by simp only [eq_iff_iff, iff_false]; omega
  have s6 : (9223372036854775807 < A0.size + A1.size + A2.size + A3.size + A4.size + r.key.size + A5.size) = False := by simp only [eq_iff_iff, iff_false]; omega
  have s7 : (9223372036854775807 < A0.size + A1.size + A2.size + A3.size + A4.size + r.key.size + A5.size + r.value.size) = False := by simp only [eq_iff_iff, iff_false]; omega
  have s8 : (9223372036854775807 < A0.size + A1.size + A2.size + A3.size + A4.size + r.key.size + A5.size + r.value.size + (zerS n).size) = False := by simp only [eq_iff_iff, iff_false]; omega
  clear e z0 z1 z2 z3 z4 z5 z6 z7 z8
  generalize zerS n = A6 at *
  go_enter Tryd.func11, Tryd.ntmps11
  go_wp2_with fail
  refine (KM.out _).mono ?_
  rintro e w1 ⟨rfl, b1⟩
  have T1 := Lib.hid (T0.out.later b1)
  clear b1 T0 KM a0 a1 a2 a3 a4 a5 a6
  generalize w.heap.size = g at *
  obtain ⟨a0, a1, a2, a3, a4, a5, a6⟩ := T1.out.all
  go_upto_if 10 with fail
  go_cut [0, 4, 6, 10] (fun s0 s s6 s10 wx => s = .int .u64 (mk : Int) ∧ wx = w1 ∧ s0 = .agg #[.string r.key, .bool r.mark, .int .u64 (r.tx : Int), .int .u32 (r.page : Int), .int .u16 (r.slot : Int), .string r.value, .int .i64 r.pad] ∧ s6 = .agg #[.string r.key, .bool r.mark, .int .u64 (r.tx : Int), .int .u32 (r.page : Int), .int .u16 (r.slot : Int), .string r.value, .int .i64 r.pad] ∧ s10 = .bool r.mark)
  case first =>
    cases hb : r.mark with
    | false =>
      rw [hb] at emk a1
      have HB := Lib.hid hb
      clear hb
      obtain rfl : mk = 0 := by rw [emk]; rfl
      go_wp2_with fail
      go_meet
      exact ⟨rfl, rfl, by rw [HB.out], by rw [HB.out], by rw [HB.out]⟩
    | true =>
      rw [hb] at emk a1
      have HB := Lib.hid hb
      clear hb
      obtain rfl : mk = 1 := by rw [emk]; rfl
      go_wp2_with fail
      go_meet
      exact ⟨rfl, rfl, by rw [HB.out], by rw [HB.out], by rw [HB.out]⟩
  case rest =>
    obtain ⟨rfl, rfl, rfl, rfl, rfl⟩ := hcut
    go_wp2_with fail
    clear a0 a1 a2 a3 a4 a5 a6 emk
    have T2 := Lib.hid (T1.out.later ((Below.refl _ _).drew))
    clear T1
    go_region_held3 (fun w' => (w'.cell? ⟨g, 0, none⟩ = some (.string r.key) ∧ w'.cell? ⟨g, 1, none⟩ = some (.bool r.mark) ∧ w'.cell? ⟨g, 2, none⟩ = some (.int .u64 (r.tx : Int)) ∧ w'.cell? ⟨g, 3, none⟩ = some (.int .u32 (r.page : Int)) ∧ w'.cell? ⟨g, 4, none⟩ = some (.int .u16 (r.slot : Int)) ∧ w'.cell? ⟨g, 5, none⟩ = some (.string r.value) ∧ w'.cell? ⟨g, 6, none⟩ = some (.int .i64 r.pad))) (first | exact T2.out.all | exact T3.all | exact T4.all | exact T5.all | exact T6.all)
      (first
        | (go_at_call 25; (with_reducible refine (K0.out _).mono ?_); rintro e w3 ⟨rfl, b2⟩; have T3 := T2.out.later b2; clear b2)
        | (go_at_call 25; (with_reducible refine (K1.out _).mono ?_); rintro e w3 ⟨rfl, b2⟩; have T4 := T3.later b2; clear b2)
        | (go_at_call 25; (with_reducible refine (K2.out _).mono ?_); rintro e w4 ⟨rfl, b2⟩; have T5 := T4.later b2; clear b2)
        | (go_at_call 25; (with_reducible refine (K3.out _).mono ?_); rintro e w5 ⟨rfl, b2⟩; have T6 := T5.later b2; clear b2))
    have T7 := Lib.hid (T6.later ((Below.refl _ _).drew))
    clear T2 T3 T4 T5 T6 K0 K1 K2 K3
    go_wp2_with fail
    go_region_held3 (fun w' => (w'.cell? ⟨g, 0, none⟩ = some (.string r.key) ∧ w'.cell? ⟨g, 1, none⟩ = some (.bool r.mark) ∧ w'.cell? ⟨g, 2, none⟩ = some (.int .u64 (r.tx : Int)) ∧ w'.cell? ⟨g, 3, none⟩ = some (.int .u32 (r.page : Int)) ∧ w'.cell? ⟨g, 4, none⟩ = some (.int .u16 (r.slot : Int)) ∧ w'.cell? ⟨g, 5, none⟩ = some (.string r.value) ∧ w'.cell? ⟨g, 6, none⟩ = some (.int .i64 r.pad))) (first | exact T7.out.all | exact T8.all | exact T9.all)
      (first
        | (go_at_call 25; (with_reducible refine (K4.out _).mono ?_); rintro e w3 ⟨rfl, b2⟩; have T8 := T7.out.later b2; clear b2)
        | (go_at_call 25; (with_reducible refine (K5.out _).mono ?_); rintro e w3 ⟨rfl, b2⟩; have T9 := T8.later b2; clear b2))
    have TT := Lib.hid T9
    clear T7 T8 T9 K4 K5
    obtain ⟨a0, a1, a2, a3, a4, a5, a6⟩ := TT.out.all
    go_wp2_with fail
    go_ret2
    exact ⟨by rw [E.out]; rfl, (TT.out.below).alloc TT.out.below.size _⟩

theorem rencode_any (r : Rw) (w : World) (hr : r.wf) :
    Calls Tryd.prog 11 #[rwV r] w fun e w' => e = .returned (.tuple #[.string (encS r), .int .i64 (encE r)]) ∧ Below w.heap.size w w' := by
  cases hm : mayR r with
  | true =>
    have e : encE r = 0 := by unfold encE; rw [if_pos hm]
    rw [e]
    exact rencode_yes r w hr hm
  | false =>
    have e : encE r = 2 := by unfold encE; rw [if_neg (by rw [hm]; decide)]
    have e2 : encS r = ⟨#[]⟩ := by unfold encS; rw [if_neg (by rw [hm]; decide)]
    rw [e, e2]
    exact rencode_no r w hr hm

end Go.Proofs.YtobnenjhmkbdoaaDoor.Row
