/- Walks: a sector that the law makes. -/
import Derived.Test.YtfcibccipkokoaaZCA
import Derived.Laws.MakeOwn
namespace Go.Proofs.Ytfcibccipkokoaa.Mas
open Go.RowKit
attribute [local go_sem ↓] Go.wp_at_zero Go.wp_at_succ

/-- a text, as long as a sector -/
def padL (l : List UInt8) : List UInt8 := l.take 128 ++ zerosL (128 - (l.take 128).length)
theorem padL_len (l : List UInt8) : (padL l).length = 128 := by
  unfold padL
  rw [List.length_append, zerosL_len, List.length_take]
  omega
def padB (s : ByteArray) : ByteArray := ⟨(padL s.data.toList).toArray⟩
theorem padB_size (s : ByteArray) : (padB s).size = 128 := by
  show (padL _).toArray.size = 128
  rw [List.size_toArray, padL_len]
def srcB (t s : ByteArray) : ByteArray := if t = ⟨#[]⟩ then s else t
def secB (a b : Ms) (k : Nat) (s : ByteArray) : ByteArray := padB (srcB (if k % 3 = 0 then encB a else if k % 3 = 1 then encB b else ⟨#[]⟩) s)

set_option maxRecDepth 100000 in
/-- 'copy' out of a text into a block as long as a sector -/
theorem run_copy_min (w : World) (ty : TypeId) (g : Nat) (s : ByteArray) (ht : w.there g 0 128) :
    (Builtin.copy_ #[41, 9] ty #[.slice (some ⟨g, 0, none⟩) 128 128, .string s]).run Try.prog w = .ok (goInt (Nat.min s.size 128)) (w.setCells g 0 (Lib.byteCells (s.data.toList.take 128))) := by
  have hl : (s.data.toList.take 128).length ≤ 128 := by rw [List.length_take]; exact Nat.min_le_left _ _
  have hst := run_storeCells_cells (P := Try.prog) g 0 (Lib.byteCells (s.data.toList.take 128)) 0 w (fun j hj => (ht j (by rw [Disk.byteCells_len] at hj; omega)).1) (fun j hj => (ht j (by rw [Disk.byteCells_len] at hj; omega)).2) (Disk.byteCells_one _)
  rw [Nat.add_zero] at hst
  have hsz : (sizeOf 5).run Try.prog w = .ok 1 w := by kernel_rfl
  have hf : (Builtin.firstCells 1 (Nat.min s.size 128) (.string s)).run Try.prog w = .ok (Lib.byteCells (s.data.toList.take 128)).toArray w := by
    have e : (s.extract 0 (Nat.min s.size 128)).data.map (fun b => Value.int .u8 (b.toNat : Int)) = (Lib.byteCells (s.data.toList.take 128)).toArray := by
      apply Array.toList_inj.1
      rw [ByteArray.data_extract]
      have e2 : s.data.toList.take (Nat.min s.size 128) = s.data.toList.take 128 := by
        by_cases h : s.size ≤ 128
        · rw [show Nat.min s.size 128 = s.size from Nat.min_eq_left h, List.take_of_length_le (show s.data.toList.length ≤ s.size from Nat.le_refl _), List.take_of_length_le h]
        · rw [show Nat.min s.size 128 = 128 from Nat.min_eq_right (by omega)]
      have e3 : (s.data.extract 0 (Nat.min s.size 128)).toList = s.data.toList.take 128 := by
        rw [Array.toList_extract, List.extract_eq_take_drop, Nat.sub_zero, List.drop_zero, e2]
      rw [Array.toList_map, e3]
      simp [Lib.byteCells]
    simp only [Builtin.firstCells, Sem.run_pure, e]
  simp only [Builtin.copy_, Sem.run_bind, run_underlying Try.underlying41, Result.andThen_ok, Builtin.lenOf, Sem.run_pure, hsz, List.getElem?_toArray, List.getElem?_cons_zero, List.getElem?_cons_succ, hf, hst]

set_option maxRecDepth 100000 in
theorem wpList_copy_min {w : World} {ops : Array Oper} {rest : List Oper} {o : Oper} {a : Act} {Q : Exit → Act → World → Prop} (hgd : o.guard = none) (d s : Operand)
    (ho : o.op = .call { callee := .builtin .copy, args := #[d, s], argTypes := #[41, 9] }) (g : Nat) (x : ByteArray) (hd : a.eval d = .slice (some ⟨g, 0, none⟩) 128 128) (hs : a.eval s = .string x)
    (ht : w.there g 0 128) (W : World) (hW : w.setCells g 0 (Lib.byteCells (x.data.toList.take 128)) = W) (h : wpList Try.prog ops Q rest (a.put o.dst (goInt (Nat.min x.size 128))) W) : wpList Try.prog ops Q (o :: rest) a w := by
  subst hW
  refine wpList_plain hgd fun K hK => ?_
  unfold Oper.wp execOp
  simp only [ho, resolve, invoke, builtin, Sem.run_bind, Sem.run_pure, Result.andThen_ok, List.map_toArray, List.map_cons, List.map_nil, hd, hs, run_copy_min w o.type g x ht]
  exact hK _ _ h
/-- the block into which a text was copied -/
theorem pad_world (w : World) (x : ByteArray) : (w.alloc (.cells (madeCells #[Value.int .u8 0] 128) 5)).setCells w.heap.size 0 (Lib.byteCells (x.data.toList.take 128)) = w.alloc (.cells (Lib.byteCells (padL x.data.toList)).toArray 5) := by
  have hl : (Lib.byteCells (x.data.toList.take 128)).length ≤ 128 := by rw [Disk.byteCells_len, List.length_take]; exact Nat.min_le_left _ _
  have hz : (madeCells #[Value.int .u8 0] 128).size = 128 := by rw [size_madeCells]
  rw [Disk.alloc_setCells w _ 5 0 _ (by rw [hz]; omega)]
  congr 3
  rw [List.take_zero, List.nil_append, Nat.zero_add]
  unfold padL
  have hm : (madeCells #[Value.int .u8 0] 128).toList = Lib.byteCells (zerosL 128) := by
    unfold madeCells zerosL Lib.byteCells
    simp
    rfl
  rw [hm]
  simp only [Lib.byteCells, List.map_append, List.length_map]
  congr 1
  rw [← List.map_drop]
  congr 1
  unfold zerosL
  rw [List.drop_replicate]
theorem pad_there (w : World) : (w.alloc (.cells (madeCells #[Value.int .u8 0] 128) 5)).there w.heap.size 0 128 := by
  intro j hj
  have hz : (madeCells #[Value.int .u8 0] 128).size = 128 := by rw [size_madeCells]
  rw [Nat.zero_add, World.cell?_alloc_new, World.frozen?_alloc_new]
  refine ⟨?_, rfl⟩
  rw [Array.getElem?_eq_getElem (by omega)]
  rfl
theorem pad_out (w : World) (x : ByteArray) : (convert 41 9 (.slice (some ⟨w.heap.size, 0, none⟩) 128 128)).run Try.prog (w.alloc (.cells (Lib.byteCells (padL x.data.toList)).toArray 5)) = .ok (.string (padB x)) (w.alloc (.cells (Lib.byteCells (padL x.data.toList)).toArray 5)) := by
  have h := run_convert_bytes_back (P := Try.prog) (w.alloc (.cells (Lib.byteCells (padL x.data.toList)).toArray 5)) 41 9 5 ⟨w.heap.size, 0, none⟩ 128 (padL x.data.toList) Try.underlying41 Try.underlying5 Try.underlying9 (by
    intro j hj
    rw [Addr.add_mid, Nat.zero_add, World.cell?_alloc_new]
    simp [Lib.byteCells, List.getElem?_eq_getElem hj])
  rw [padL_len] at h
  exact h

set_option maxRecDepth 100000 in
set_option maxHeartbeats 8000000 in
theorem sector_any (a b : Ms) (k : Nat) (s : ByteArray) (w : World) (ha : a.wf) (hb : b.wf) (hk : k < 256) (_hs : s.size ≤ 1000) :
    Calls Try.prog 20 #[msV a, msV b, .int .u8 (k : Int), .string s] w fun e w' => e = .returned (.string (secB a b k s)) ∧ Below w.heap.size w w' := by
  have T0 := Lib.hid (Tb.new a b (Below.refl w.heap.size w))
  have KA := Lib.hid (fun W => rencode_any a W ha)
  have KB := Lib.hid (fun W => rencode_any b W hb)
  obtain ⟨p0, p1, p2, p3, p4⟩ := T0.out.a.five
  obtain ⟨q0, q1, q2, q3, q4⟩ := T0.out.b.five
  obtain ⟨i0, hi, hz0, hz1, hz2⟩ := info_parts infoByte
  have hmk := fun W => run_make (P := Try.prog) W 41 5 i0 (.int .u8 0) Try.underlying41 hi hz0 .i64 .i64 128 128 (by omega) (by omega) (by rw [hz2]; omega) (by omega)
  have e4 : (128 : Int).toNat = 128 := rfl
  simp only [hz1, e4, Nat.mul_one] at hmk
  have MM := Lib.hid hmk
  have r3 : k % 3 = 0 ∨ k % 3 = 1 ∨ k % 3 = 2 := by omega
  have km : (k : Int).tmod 3 = ((k % 3 : Nat) : Int) := by rw [Int.tmod_eq_emod_of_nonneg (by omega)]; rfl
  have RR := Lib.hid (show secB a b k s = padB (srcB (if k % 3 = 0 then encB a else if k % 3 = 1 then encB b else ⟨#[]⟩) s) from rfl)
  clear ha hb hmk
  generalize encB a = A at *
  generalize encB b = B at *
  generalize secB a b k s = res at *
  unfold msV
  generalize hC : msC a = C at *
  generalize hC2 : msC b = C2 at *
  unfold msC at hC hC2
  subst hC hC2
  go_enter Try.func20, Try.ntmps20
  rcases r3 with h | h | h
  · rw [h] at km
    go_wp2_with fail
    refine (KA.out _).mono ?_
    rintro e wz ⟨rfl, b1⟩
    go_upto_region 7 with fail
    have BW := Lib.hid (T0.out.later b1).a.below
    have RQ := Lib.hid (show res = padB (srcB A s) from by rw [RR.out, if_pos h])
    clear RR T0 KA KB p0 p1 p2 p3 p4 q0 q1 q2 q3 q4 h b1
    by_cases hT : A = ⟨#[]⟩
    · subst hT
      have PW := Lib.hid (pad_world wz s)
      have PT := Lib.hid (pad_there wz)
      have po := pad_out wz s
      have BZ := Lib.hid (BW.out.trans ((below_new wz (.cells (Lib.byteCells (padL s.data.toList)).toArray 5)).mono BW.out.size))
      have RX := Lib.hid (show res = padB s from by rw [RQ.out]; unfold srcB; rw [if_pos rfl])
      have mm := MM.out wz
      clear MM RQ BW
      go_wp2_with (refine wpList_copy_min rfl (.tmp 25) (.tmp 26) rfl wz.heap.size s rfl rfl PT.out _ PW.out ?_)
      go_ret
      exact ⟨by rw [RX.out]; rfl, BZ.out⟩
    · have e1 : A.toList.isEmpty = false := by
        cases hq : A.toList with
        | nil => exact absurd (ByteArray.ext (Array.toList_inj.1 (by rw [← Lib.toList_data, hq]))) hT
        | cons _ _ => rfl
      have e2 : (A.toList == []) = false := by
        cases hq : A.toList with
        | nil => rw [hq] at e1; cases e1
        | cons _ _ => rfl
      have HT := Lib.hid hT
      clear hT
      have PW := Lib.hid (pad_world wz A)
      have PT := Lib.hid (pad_there wz)
      have po := pad_out wz A
      have BZ := Lib.hid (BW.out.trans ((below_new wz (.cells (Lib.byteCells (padL A.data.toList)).toArray 5)).mono BW.out.size))
      have RX := Lib.hid (show res = padB A from by rw [RQ.out]; unfold srcB; rw [if_neg HT.out])
      have mm := MM.out wz
      clear MM RQ BW
      go_wp2_with (refine wpList_copy_min rfl (.tmp 25) (.tmp 26) rfl wz.heap.size A rfl rfl PT.out _ PW.out ?_)
      go_ret
      exact ⟨by rw [RX.out]; rfl, BZ.out⟩
  · rw [h] at km
    go_wp2_with fail
    refine (KB.out _).mono ?_
    rintro e wz ⟨rfl, b1⟩
    go_upto_region 7 with fail
    have BW := Lib.hid (T0.out.later b1).a.below
    have RQ := Lib.hid (show res = padB (srcB B s) from by rw [RR.out, if_neg (by omega), if_pos h])
    clear RR T0 KA KB p0 p1 p2 p3 p4 q0 q1 q2 q3 q4 h b1
    by_cases hT : B = ⟨#[]⟩
    · subst hT
      have PW := Lib.hid (pad_world wz s)
      have PT := Lib.hid (pad_there wz)
      have po := pad_out wz s
      have BZ := Lib.hid (BW.out.trans ((below_new wz (.cells (Lib.byteCells (padL s.data.toList)).toArray 5)).mono BW.out.size))
      have RX := Lib.hid (show res = padB s from by rw [RQ.out]; unfold srcB; rw [if_pos rfl])
      have mm := MM.out wz
      clear MM RQ BW
      go_wp2_with (refine wpList_copy_min rfl (.tmp 25) (.tmp 26) rfl wz.heap.size s rfl rfl PT.out _ PW.out ?_)
      go_ret
      exact ⟨by rw [RX.out]; rfl, BZ.out⟩
    · have e1 : B.toList.isEmpty = false := by
        cases hq : B.toList with
        | nil => exact absurd (ByteArray.ext (Array.toList_inj.1 (by rw [← Lib.toList_data, hq]))) hT
        | cons _ _ => rfl
      have e2 : (B.toList == []) = false := by
        cases hq : B.toList with
        | nil => rw [hq] at e1; cases e1
        | cons _ _ => rfl
      have HT := Lib.hid hT
      clear hT
      have PW := Lib.hid (pad_world wz B)
      have PT := Lib.hid (pad_there wz)
      have po := pad_out wz B
      have BZ := Lib.hid (BW.out.trans ((below_new wz (.cells (Lib.byteCells (padL B.data.toList)).toArray 5)).mono BW.out.size))
      have RX := Lib.hid (show res = padB B from by rw [RQ.out]; unfold srcB; rw [if_neg HT.out])
      have mm := MM.out wz
      clear MM RQ BW
      go_wp2_with (refine wpList_copy_min rfl (.tmp 25) (.tmp 26) rfl wz.heap.size B rfl rfl PT.out _ PW.out ?_)
      go_ret
      exact ⟨by rw [RX.out]; rfl, BZ.out⟩
  · rw [h] at km
    have BW := Lib.hid T0.out.a.below
    have RQ := Lib.hid (show res = padB (srcB ⟨#[]⟩ s) from by rw [RR.out, if_neg (by omega), if_neg (by omega)])
    have WZ : ∃ wz, wz = (w.alloc (.cells (msC a) 40)).alloc (.cells (msC b) 40) := ⟨_, rfl⟩
    obtain ⟨wz, hwz⟩ := WZ
    unfold msC at hwz
    rw [← hwz] at BW
    clear RR T0 KA KB p0 p1 p2 p3 p4 q0 q1 q2 q3 q4 h
    go_upto_region 7 with fail
    rw [← hwz]
    clear hwz
    have PW := Lib.hid (pad_world wz s)
    have PT := Lib.hid (pad_there wz)
    have po := pad_out wz s
    have BZ := Lib.hid (BW.out.trans ((below_new wz (.cells (Lib.byteCells (padL s.data.toList)).toArray 5)).mono BW.out.size))
    have RX := Lib.hid (show res = padB s from by rw [RQ.out]; unfold srcB; rw [if_pos rfl])
    have mm := MM.out wz
    clear MM RQ BW
    go_wp2_with (refine wpList_copy_min rfl (.tmp 25) (.tmp 26) rfl wz.heap.size s rfl rfl PT.out _ PW.out ?_)
    go_ret
    exact ⟨by rw [RX.out]; rfl, BZ.out⟩

end Go.Proofs.Ytfcibccipkokoaa.Mas
