/-
  Walks: a stretch's place; a stretch's sector is written.
  Walks: a builder that is written to (any stage).
  Walks: the bytes that a ring has.
  Walks: the frames that are taken; what comes no more.
-/
import Derived.Lib.LazyBuf
import Derived.Lib.AppendStr
import Derived.Lib.UnsafeStr
import Derived.Laws.Externs
import Derived.Test.YtgohpompgiljiaaZ5
import Derived.Test.YtgohpompgiljiaaZ39
import Derived.Test.YtgohpompgiljiaaZ41
import Derived.Test.YtgohpompgiljiaaZ46
namespace Go.Proofs.Ytgohpompgiljiaa.Log
open Go.RowKit
open Go.Proofs.Ytgohpompgiljiaa.Sl (Sl Step re)
open Go.Proofs.Ytgohpompgiljiaa.Seq (byteS all_byte)
open Go.Proofs.Ytgohpompgiljiaa.Disk (D Rep grew)
open Go.Proofs.Ytgohpompgiljiaa.Frame (L nb L_nb L_app L_ext nb_size)
attribute [local go_sem ↓] Go.wp_at_zero Go.wp_at_succ

set_option maxRecDepth 100000 in
set_option maxHeartbeats 1000000 in
theorem place_any (pv : Value) (a n k : Nat) (w : World) (h4 : 4 ≤ n) (h12 : n ≤ 4096) (ha : a ≤ 1000000) : Calls Try.prog 56 #[ringV pv a n, .int .u64 (k : Int)] w fun e w' => e = .returned (.int .i64 ((a + k % n : Nat) : Int)) ∧ Below w.heap.size w w' := by
  have BN := Lib.hid (below_new w (.cells (ringC pv a n) 61))
  obtain ⟨c0, c1, c2⟩ := ring_cells w pv a n
  have hlt : k % n < n := Nat.mod_lt _ (by omega)
  have e1 : IntKind.u64.wrap (n : Int) = (n : Int) := wrap_u64 (by omega) (by omega)
  have e2 : (k : Int).tmod (n : Int) = ((k % n : Nat) : Int) := rfl
  have e3 : IntKind.i64.wrap ((k % n : Nat) : Int) = ((k % n : Nat) : Int) := wrap_i64 (by omega) (by omega)
  have e4 : ((a + k % n : Nat) : Int) = (a : Int) + ((k % n : Nat) : Int) := by omega
  have e5 : IntKind.i64.wrap ((a : Int) + ((k % n : Nat) : Int)) = (a : Int) + ((k % n : Nat) : Int) := wrap_i64 (by omega) (by omega)
  have n0 : (n : Int) ≠ 0 := by omega
  have n1 : ((n : Int) == 0) = false := by rw [beq_eq_false_iff_ne]; exact n0
  rw [e4]
  clear e4
  unfold ringV
  unfold ringC at *
  go_enter Try.func56, Try.ntmps56
  go_upto_region 1 with fail
  generalize w.alloc _ = W at *
  go_quiet (fail)
  go_wp2_with fail
  go_ret
  have e6 : ((k % n : Nat) : Int) = (k : Int) % (n : Int) := Int.natCast_emod k n
  exact ⟨by rw [e6]; rfl, BN.out.trans ((below_drewN _ _).mono BN.out.size)⟩

/-! ### a sector's bytes, as they are laid -/
def secC (l : List UInt8) : Array Value := (Lib.byteCells l).toArray
def zer (n : Nat) : List UInt8 := List.replicate n 0
theorem zer_len (n : Nat) : (zer n).length = n := List.length_replicate
structure Arr (w : World) (g : Nat) (l : List UInt8) : Prop where
  box : w.heap[g]? = some (.cells (secC l) 101 (0, 0))
  len : l.length = 128
theorem Arr.later {w w' : World} {g : Nat} {l : List UInt8} (h : Arr w g l) (b : Below w.heap.size w w') : Arr w' g l := ⟨(b.block _ (Array.getElem?_eq_some_iff.1 h.box).1).trans h.box, h.len⟩
theorem Arr.lt {w : World} {g : Nat} {l : List UInt8} (h : Arr w g l) : g < w.heap.size := (Array.getElem?_eq_some_iff.1 h.box).1
theorem Arr.cell {w : World} {g : Nat} {l : List UInt8} (h : Arr w g l) {j : Nat} (_hj : j < 128) : w.cell? ⟨g, j, none⟩ = (Lib.byteCells l)[j]? := by
  rw [cell_of_row w g j _ _ _ h.box]
  unfold secC
  rw [List.getElem?_toArray]
theorem Arr.there {w : World} {g : Nat} {l : List UInt8} (h : Arr w g l) {j : Nat} (hj : j < 128) : (w.cell? ⟨g, j, none⟩).isSome = true ∧ w.frozen? ⟨g, j, none⟩ = false := by
  refine ⟨?_, frozen_of_row w g _ _ _ h.box⟩
  rw [h.cell hj, List.getElem?_eq_getElem (by rw [Disk.byteCells_len, h.len]; exact hj)]
  rfl
theorem Arr.put {w : World} {g : Nat} {l : List UInt8} (h : Arr w g l) {o : Nat} {t : List UInt8} (ho : o + t.length ≤ 128) : Arr (w.setCells g o (Lib.byteCells t)) g (l.take o ++ t ++ l.drop (o + t.length)) := by
  have hsz : (secC l).size = 128 := by unfold secC; rw [List.size_toArray, Disk.byteCells_len, h.len]
  obtain ⟨cur, k1, k2, k3⟩ := Disk.heap_setCells g 101 (Lib.byteCells t) o w (secC l) h.box (by rw [Disk.byteCells_len, hsz]; exact ho)
  have e : cur = secC (l.take o ++ t ++ l.drop (o + t.length)) := by
    apply Array.toList_inj.1
    rw [k3, Disk.byteCells_len]
    unfold secC Lib.byteCells
    simp
  exact ⟨by rw [k1, e], by simp only [List.length_append, List.length_take, List.length_drop, h.len]; omega⟩
theorem Arr.new (w : World) : Arr (w.alloc (.cells (secC (zer 128)) 101)) w.heap.size (zer 128) := ⟨heap_alloc_new _ _, zer_len _⟩
set_option maxRecDepth 100000 in
theorem lslice_all (w : World) (g : Nat) : (Instr.sliceAt 101 (.pointer (some ⟨g, 0, none⟩)) none none none).run Try.prog w = .ok (.slice (some ⟨g, 0, none⟩) 128 128) w := by
  have ha : Try.prog.arrayLen 101 = 128 := by kernel_rfl
  have hz : (sizeOf (Try.prog.elem 101)).run Try.prog w = .ok 1 w := by kernel_rfl
  rw [run_sliceAt_array_all w 101 ⟨g, 0, none⟩ (by kernel_rfl), ha, hz]
  simp [Result.andThen, slicedAt, Addr.add]
set_option maxRecDepth 100000 in
theorem lslice_18 (w : World) (g : Nat) : (Instr.sliceAt 101 (.pointer (some ⟨g, 0, none⟩)) (some (.int .i64 18)) none none).run Try.prog w = .ok (.slice (some ⟨g, 18, none⟩) 110 110) w := by
  have ha : Try.prog.arrayLen 101 = 128 := by kernel_rfl
  have hz : (sizeOf (Try.prog.elem 101)).run Try.prog w = .ok 1 w := by kernel_rfl
  rw [run_sliceAt_array_l w 101 ⟨g, 0, none⟩ (by kernel_rfl) .i64 18 (by omega) (by rw [ha]; omega), ha, hz]
  simp [Result.andThen, slicedAt, Addr.add]
theorem Arr.conv {w : World} {g : Nat} {l : List UInt8} (h : Arr w g l) : (convert 55 9 (.slice (some ⟨g, 0, none⟩) 128 128)).run Try.prog w = .ok (.string (bs l)) w := by
  have := run_convert_bytes_back (P := Try.prog) w 55 9 5 ⟨g, 0, none⟩ 128 l Try.underlying55 Try.underlying5 Try.underlying9 (fun j hj => by
    rw [Addr.add_mid, Nat.zero_add, h.cell (by rw [← h.len]; exact hj)]
    simp [Lib.byteCells, List.getElem?_eq_getElem hj])
  rw [h.len] at this
  exact this
set_option maxRecDepth 100000 in
theorem zero_sec (w : World) : (zeroValue 101).run Try.prog w = .ok (.agg (secC (zer 128))) w := by kernel_rfl
theorem size_byte (w : World) : (Go.sizeOf 5).run Try.prog w = .ok 1 w := by kernel_rfl
theorem info_byte : (Try.prog.info? 5).map (·.size) = some 1 := by kernel_rfl
section
variable {w : World} {g : Nat} {l : List UInt8} {ops : Array Oper} {rest : List Oper} {o : Oper} {a : Act} {Q : Exit → Act → World → Prop}
/-- a text is laid at the beginning -/
theorem wpList_copyS (h : Arr w g l) (x : ByteArray) (m : Nat) (hm : x.size = m) (y : List UInt8) (hy : L x = y) (hx : m ≤ 128) (hgd : o.guard = none) (d s : Operand) (ho : o.op = .call { callee := .builtin .copy, args := #[d, s], argTypes := #[55, 9] }) (hd : a.eval d = .slice (some ⟨g, 0, none⟩) 128 128) (hs : a.eval s = .string x)
    (hk : wpList Try.prog ops Q rest (a.put o.dst (.int .i64 (m : Int))) (w.setCells g 0 (Lib.byteCells y))) : wpList Try.prog ops Q (o :: rest) a w := by
  subst hm hy
  refine wpList_plain hgd fun K hK => ?_
  have hr := Go.run_copy_string (P := Try.prog) w 55 9 o.type 5 g 0 128 128 x Try.underlying55 size_byte hx (fun j hj => by rw [Nat.zero_add]; exact (h.there (by omega)).1) (fun j hj => by rw [Nat.zero_add]; exact (h.there (by omega)).2)
  unfold Oper.wp execOp
  simp only [ho, resolve, invoke, builtin, Sem.run_bind, Sem.run_pure, Result.andThen_ok, List.map_toArray, List.map_cons, List.map_nil, hd, hs, hr]
  exact hK _ _ hk
/-- bytes are laid behind the head -/
theorem wpList_copyB (h : Arr w g l) {F : Nat → Prop} {v : Value} {p : List UInt8} (hv : Sl byteS F w v p) (hp : p.length ≤ 110) (hgd : o.guard = none) (d s : Operand) (ho : o.op = .call { callee := .builtin .copy, args := #[d, s], argTypes := #[55, 55] }) (hd : a.eval d = .slice (some ⟨g, 18, none⟩) 110 110) (hs : a.eval s = v)
    (hk : wpList Try.prog ops Q rest (a.put o.dst (goInt p.length)) (w.setCells g 18 (Lib.byteCells p))) : wpList Try.prog ops Q (o :: rest) a w := by
  refine wpList_plain hgd fun K hK => ?_
  have hr : (Builtin.copy_ #[55, 55] o.type #[.slice (some ⟨g, 18, none⟩) 110 110, v]).run Try.prog w = .ok (goInt p.length) (w.setCells g 18 (Lib.byteCells p)) := by
    obtain ⟨ad, c, rfl, h1, h2, hc⟩ := hv
    by_cases h0 : p = []
    · subst h0
      exact run_copy_none (P := Try.prog) w 55 55 o.type 5 (some ⟨g, 18, none⟩) ad 110 110 0 c Try.underlying55 info_byte (by simp)
    · have hpos : 0 < p.length := by
        cases p with
        | nil => exact absurd rfl h0
        | cons _ _ => simp
      rcases hc with rfl | ⟨gt, ot, rfl, _, _, _, hu⟩
      · omega
      · have hl : (Lib.byteCells p).length = p.length := Disk.byteCells_len p
        have := run_copy_cells (P := Try.prog) w 55 55 o.type 5 g 18 110 110 ⟨gt, ot, none⟩ p.length c (Lib.byteCells p) Try.underlying55 info_byte (by rw [hl]; exact (Nat.min_eq_left hp).symm)
          (fun j u hj => by rw [Addr.add_lit]; exact hu j u (by rw [all_byte]; exact hj)) (fun j hj => (h.there (by omega)).1) (fun j hj => (h.there (by omega)).2) (Disk.byteCells_one p)
        rw [hl] at this
        exact this
  unfold Oper.wp execOp
  simp only [ho, resolve, invoke, builtin, Sem.run_bind, Sem.run_pure, Result.andThen_ok, List.map_toArray, List.map_cons, List.map_nil, hd, hs, hr]
  exact hK _ _ hk
end
theorem sec_laid {k life : Nat} {p : List UInt8} (hp : p.length ≤ 110) :
    (((zer 128).take 0 ++ L (nb 8 (k * 110) ++ nb 8 life ++ nb 2 p.length) ++ (zer 128).drop (0 + (L (nb 8 (k * 110) ++ nb 8 life ++ nb 2 p.length)).length)).take 18 ++ p ++ ((zer 128).take 0 ++ L (nb 8 (k * 110) ++ nb 8 life ++ nb 2 p.length) ++ (zer 128).drop (0 + (L (nb 8 (k * 110) ++ nb 8 life ++ nb 2 p.length)).length)).drop (18 + p.length)) = secL k life p := by
  have e : L (nb 8 (k * 110) ++ nb 8 life ++ nb 2 p.length) = be 8 (k * 110) ++ be 8 life ++ be 2 p.length := by rw [L_app, L_app, L_nb, L_nb, L_nb]
  have h18 : (be 8 (k * 110) ++ be 8 life ++ be 2 p.length).length = 18 := by simp only [List.length_append, be_length]
  rw [e, h18, List.take_zero, List.nil_append, List.take_left' h18, List.drop_append, h18]
  unfold secL zer
  rw [List.drop_of_length_le (by rw [h18]; omega), List.nil_append, List.drop_drop, List.drop_replicate]
  simp only [List.append_assoc]
  rw [show 128 - (0 + 18 + (18 + p.length - 18)) = 110 - p.length from by omega]

/-! ### write -/
def WrP (p k life : Nat) (a n : Nat) (d : D) (F : Nat → Prop) (t : List UInt8) (w : World) (e : Ending) (w' : World) : Prop :=
  e = .returned (.int .i64 0) ∧ Rep w' p (d.write (a + k % n) (secL k life t)) (grew F w w') ∧ Disk.Touch F w w'
set_option maxRecDepth 100000 in
set_option maxHeartbeats 4000000 in
theorem wr_any {w : World} {p : Nat} {d : D} {F G : Nat → Prop} (h : Rep w p d F) (hf : d.fuse ≠ 0) (a n k life : Nat) (h4 : 4 ≤ n) (h12 : n ≤ 4096) (ha : a + n ≤ d.sure.length) (hk : k ≤ 10000000000) (hl9 : life ≤ 1000000000) (hlo : d.loose.length ≤ 1000000000) {v : Value} {t : List UInt8} (ht : Sl byteS G w v t) (htl : t.length ≤ 110) :
    Calls Try.prog 33 #[ringV (.pointer (some ⟨p, 0, none⟩)) a n, .int .u64 (k : Int), .int .u64 (life : Int), v] w (WrP p k life a n d F t w) := by
  have hmost := h.ok.most
  have BN := Lib.hid (below_new w (.cells (ringC (.pointer (some ⟨p, 0, none⟩)) a n) 61))
  have HRB := Lib.hid (heap_alloc_new w (.cells (ringC (.pointer (some ⟨p, 0, none⟩)) a n) 61))
  have KB := Lib.hid (fun W => beginning_any k W hk)
  have K1 := Lib.hid (fun W => Frame.fput_any (k * 110) 8 W (by omega) (by omega) (by omega))
  have K2 := Lib.hid (fun W => Frame.fput_any life 8 W (by omega) (by omega) (by omega))
  have K3 := Lib.hid (fun W => Frame.fput_any t.length 2 W (by omega) (by omega) (by omega))
  have HH := Lib.hid h
  have HT := Lib.hid ht
  obtain ⟨ta, tc, htv⟩ := ht.shape
  subst htv
  have wl : IntKind.u64.wrap ((t.length : Nat) : Int) = (t.length : Int) := wrap_u64 (by omega) (by omega)
  have zs := zero_sec
  have hx18 : (nb 8 (k * 110) ++ nb 8 life ++ nb 2 t.length).size = 18 := by simp only [ByteArray.size_append, nb_size]
  have SL := Lib.hid (sec_laid (k := k) (life := life) (p := t) htl)
  clear h ht
  generalize putB ((k * 110 : Nat) : Int) ((8 : Nat) : Int) = b1 at *
  generalize putB (life : Int) ((8 : Nat) : Int) = b2 at *
  generalize putB (t.length : Int) ((2 : Nat) : Int) = b3 at *
  generalize hsc : secL k life t = sec at *
  generalize nb 8 (k * 110) = x1 at *
  generalize nb 8 life = x2 at *
  generalize nb 2 t.length = x3 at *
  change Hid (∀ W, Calls Try.prog 51 #[.int .u64 ((k * 110 : Nat) : Int), .int .i64 8] W fun e w' => e = .returned (.tuple #[.string x1, .bool b1]) ∧ Below W.heap.size W w') at K1
  change Hid (∀ W, Calls Try.prog 51 #[.int .u64 (life : Int), .int .i64 8] W fun e w' => e = .returned (.tuple #[.string x2, .bool b2]) ∧ Below W.heap.size W w') at K2
  change Hid (∀ W, Calls Try.prog 51 #[.int .u64 (t.length : Int), .int .i64 2] W fun e w' => e = .returned (.tuple #[.string x3, .bool b3]) ∧ Below W.heap.size W w') at K3
  generalize k * 110 = kb at *
  unfold ringV
  unfold ringC at *
  go_enter Try.func33, Try.ntmps33
  go_upto_region 1 with fail
  generalize w.alloc _ = W0 at *
  go_wp2_with fail
  refine (KB.out _).mono ?_
  rintro e w1 ⟨rfl, rfl⟩
  go_wp2_with fail
  refine (K1.out _).mono ?_
  rintro e w1 ⟨rfl, q1⟩
  have B1 := Lib.hid q1
  clear q1 K1 KB
  go_wp2_with fail
  refine (K2.out _).mono ?_
  rintro e w2 ⟨rfl, q2⟩
  have B2 := Lib.hid (B1.out.trans (q2.mono B1.out.size))
  clear q2 K2 B1
  go_wp2_with fail
  refine (K3.out _).mono ?_
  rintro e w3 ⟨rfl, q3⟩
  have B3 := Lib.hid (B2.out.trans (q3.mono B2.out.size))
  clear q3 K3 B2
  have A0 := Lib.hid (Arr.new w3)
  have BA := Lib.hid (below_new w3 (.cells (secC (zer 128)) 101))
  generalize secC (zer 128) = zc at *
  have LT3 := Lib.hid (show ∀ b, F b → b < w3.heap.size from fun b hb => Nat.lt_of_lt_of_le (HH.out.below b hb) (Nat.le_trans BN.out.size B3.out.size))
  have HG := Lib.hid (show w.heap.size < w3.heap.size from Nat.lt_of_lt_of_le (Array.getElem?_eq_some_iff.1 HRB.out).1 B3.out.size)
  have BW := Lib.hid (show Below w.heap.size w (w3.alloc (.cells zc 101)) from BN.out.trans ((B3.out.trans (BA.out.mono B3.out.size)).mono BN.out.size))
  have HR4 := Lib.hid (show (w3.alloc (.cells zc 101)).heap[w.heap.size]? = some (.cells #[.pointer (some ⟨p, 0, none⟩), .int .i64 (a : Int), .int .i64 (n : Int)] 61 (0, 0)) from by
    have h1 := (Array.getElem?_eq_some_iff.1 HRB.out).1
    rw [BA.out.block _ (Nat.lt_of_lt_of_le h1 B3.out.size), B3.out.block _ h1]
    exact HRB.out)
  clear BN B3 BA HRB
  go_upto_region 5 with fail
  generalize w3.heap.size = gs at *
  generalize w3.alloc _ = W4 at *
  have s0 := fun W => lslice_all W gs
  have s18 := fun W => lslice_18 W gs
  have z1 : (9223372036854775807 < x1.size + x2.size) = False := Frame.small (by have := hx18; simp only [ByteArray.size_append] at this; omega)
  have z2 : (9223372036854775807 < x1.size + x2.size + x3.size) = False := Frame.small (x := x1.size + x2.size) (by have := hx18; simp only [ByteArray.size_append] at this ⊢; omega)
  have HX := Lib.hid hx18
  obtain ⟨y, hy⟩ : ∃ y, L (x1 ++ x2 ++ x3) = y := ⟨_, rfl⟩
  have HY := Lib.hid hy
  rw [hy] at SL
  have yl : y.length = 18 := by rw [← hy]; exact hx18
  have S1 := Lib.hid ((Disk.Touch.setCells (F := fun b => b = gs) rfl (Lib.byteCells y) 0 (Disk.Touch.refl _ W4)))
  obtain ⟨W5, hW5⟩ : ∃ W5, W5 = W4.setCells gs 0 (Lib.byteCells y) := ⟨_, rfl⟩
  have A1 := Lib.hid (show Arr W5 gs _ from by rw [hW5]; exact A0.out.put (o := 0) (t := y) (by omega))
  rw [← hW5] at S1
  have HW5 := Lib.hid hW5
  have B5 := Lib.hid (BW.out.trans (S1.out.below (B := w.heap.size) BW.out.size (fun b hb => by rw [hb]; exact Nat.le_of_lt HG.out)))
  have HT5 := Lib.hid (HT.out.later B5.out)
  have S2 := Lib.hid ((Disk.Touch.setCells (F := fun b => b = gs) rfl (Lib.byteCells t) 18 (Disk.Touch.refl _ W5)))
  obtain ⟨W6, hW6⟩ : ∃ W6, W6 = W5.setCells gs 18 (Lib.byteCells t) := ⟨_, rfl⟩
  have A2 := Lib.hid (show Arr W6 gs sec from by rw [hW6, ← SL.out]; exact A1.out.put (o := 18) (t := t) (by omega))
  rw [← hW6] at S2
  have HW6 := Lib.hid hW6
  have B6 := Lib.hid (B5.out.trans (S2.out.below (B := w.heap.size) B5.out.size (fun b hb => by rw [hb]; exact Nat.le_of_lt HG.out)))
  have R6 := Lib.hid (show W6.heap[w.heap.size]? = some (.cells #[.pointer (some ⟨p, 0, none⟩), .int .i64 (a : Int), .int .i64 (n : Int)] 61 (0, 0)) from by
    have h1 := (Array.getElem?_eq_some_iff.1 HR4.out).1
    rw [S2.out.block _ (Nat.lt_of_lt_of_le h1 S1.out.size) (fun e => by have := HG.out; omega), S1.out.block _ h1 (fun e => by have := HG.out; omega)]
    exact HR4.out)
  have HTL := Lib.hid htl
  clear hx18 hy hW5 hW6 yl S1 S2 BW HR4
  go_wp2_with (first | (refine wpList_copyS A0.out (x1 ++ x2 ++ x3) 18 HX.out y HY.out (by omega) rfl _ _ rfl rfl rfl ?_; rw [← HW5.out]) | (refine wpList_copyB A1.out HT5.out HTL.out rfl _ _ rfl rfl rfl ?_; rw [← HW6.out]))
  have SS := Lib.hid (show ∀ W, Below W6.heap.size W6 W → (W.cell? ⟨w.heap.size, 0, none⟩ = some (.pointer (some ⟨p, 0, none⟩)) ∧ W.cell? ⟨w.heap.size, 1, none⟩ = some (.int .i64 (a : Int)) ∧ W.cell? ⟨w.heap.size, 2, none⟩ = some (.int .i64 (n : Int))) ∧ Arr W gs sec from fun W b => by
    have h1 := (b.block _ (Array.getElem?_eq_some_iff.1 R6.out).1).trans R6.out
    exact ⟨⟨by rw [cell_of_row _ _ _ _ _ _ h1]; rfl, by rw [cell_of_row _ _ _ _ _ _ h1]; rfl, by rw [cell_of_row _ _ _ _ _ _ h1]; rfl⟩, A2.out.later b⟩)
  have SW := Lib.hid (show ∀ W, Disk.Touch F W6 W → (W.cell? ⟨w.heap.size, 0, none⟩ = some (.pointer (some ⟨p, 0, none⟩)) ∧ W.cell? ⟨w.heap.size, 1, none⟩ = some (.int .i64 (a : Int)) ∧ W.cell? ⟨w.heap.size, 2, none⟩ = some (.int .i64 (n : Int))) ∧ Arr W gs sec from fun W b => by
    have h1 := (b.block _ (Array.getElem?_eq_some_iff.1 R6.out).1 (fun hF => by have := HH.out.below _ hF; omega)).trans R6.out
    exact ⟨⟨by rw [cell_of_row _ _ _ _ _ _ h1]; rfl, by rw [cell_of_row _ _ _ _ _ _ h1]; rfl, by rw [cell_of_row _ _ _ _ _ _ h1]; rfl⟩, ⟨(b.block _ A2.out.lt (fun hF => by have := LT3.out _ hF; omega)).trans A2.out.box, A2.out.len⟩⟩)
  have KP := Lib.hid (fun W => place_any (.pointer (some ⟨p, 0, none⟩)) a n k W h4 h12 (by omega))
  have PF := Lib.hid (show a + k % n < d.sure.length from by have := Nat.mod_lt k (show 0 < n by omega); omega)
  have HF := Lib.hid hf
  have HLO := Lib.hid hlo
  have HSEC := Lib.hid hsc
  have SLEN := Lib.hid (show (bs sec).size = 128 from by rw [bs_size]; exact A2.out.len)
  have PO := Lib.hid (show ∀ W7 W8, Below w.heap.size w W7 → Rep W8 p (d.write (a + k % n) (L (bs sec))) (grew F W7 W8) → Disk.Touch F W7 W8 → WrP p k life a n d F t w (.returned (.int .i64 0)) W8 from fun W7 W8 b r c => by
    refine ⟨rfl, ?_, (Disk.Touch.ofNew b).trans' c⟩
    rw [L_bs] at r
    rw [HSEC.out]
    exact r.mono (fun x hx => by
      rcases hx with hx | hx
      · exact .inl hx
      · exact .inr ⟨Nat.le_trans b.size hx.1, hx.2⟩) (fun x hx => by
      rcases hx with hx | hx
      · exact Nat.lt_of_lt_of_le (HH.out.below x hx) (Nat.le_trans b.size c.size)
      · exact hx.2))
  clear hsc hf hlo h4 h12 ha hk hl9 htl wl s18 z1 z2 zs A0 A1 HT HT5 HX HY SL hmost HW5 HW6 HTL HG
  generalize k % n = kn at *
  go_upto_region 7 with fail
  refine wp_region_noPanic ?_
  refine wp_region_held_drew (S := fun W => (W.cell? ⟨w.heap.size, 0, none⟩ = some (.pointer (some ⟨p, 0, none⟩)) ∧ W.cell? ⟨w.heap.size, 1, none⟩ = some (.int .i64 (a : Int)) ∧ W.cell? ⟨w.heap.size, 2, none⟩ = some (.int .i64 (n : Int))) ∧ Arr W gs sec) (by kernel_rfl) (SS.out _ (Below.refl _ _).drew) (fun hHeld => ?_)
  refine wpAnyH_take (i := 0) (v := ?_) rfl (by kernel_rfl) (by kernel_rfl) (by kernel_rfl) (fun _ _ _ h => h) (Or.inl ⟨by rfl, ?_⟩) hHeld ?_
  rotate_left
  · (intro w hSw; obtain ⟨⟨y0, y1, y2⟩, y3⟩ := hSw; go_simp; (try with_reducible rfl))
  simp only [List.getElem_toArray, List.getElem_cons_zero, Act.put, List.setIfInBounds_toArray, List.set_cons_zero, List.set_cons_succ]
  refine wpAnyH_take (i := 1) (v := ?_) rfl (by kernel_rfl) (by kernel_rfl) (by kernel_rfl) (fun _ _ _ h => h) (Or.inl ⟨by rfl, ?_⟩) hHeld ?_
  rotate_left
  · (intro w hSw; obtain ⟨⟨y0, y1, y2⟩, y3⟩ := hSw; go_simp; (try with_reducible rfl))
  simp only [List.getElem_toArray, List.getElem_cons_succ, List.getElem_cons_zero, Act.put, List.setIfInBounds_toArray, List.set_cons_zero, List.set_cons_succ]
  refine wpAnyH_take (i := 2) (v := ?_) rfl (by kernel_rfl) (by kernel_rfl) (by kernel_rfl) (fun _ _ _ h => h) (Or.inl ⟨by rfl, ?_⟩) hHeld ?_
  rotate_left
  · (intro w hSw; obtain ⟨⟨y0, y1, y2⟩, y3⟩ := hSw; go_simp; (try with_reducible rfl))
  simp only [List.getElem_toArray, List.getElem_cons_succ, List.getElem_cons_zero, Act.put, List.setIfInBounds_toArray, List.set_cons_zero, List.set_cons_succ]
  refine wpAnyH_take (i := 3) (v := ?_) rfl (by kernel_rfl) (by kernel_rfl) (by kernel_rfl) (fun _ _ _ h => h) (Or.inl ⟨by rfl, ?_⟩) hHeld ?_
  rotate_left
  · (intro w hSw; obtain ⟨⟨y0, y1, y2⟩, y3⟩ := hSw; go_simp; (try with_reducible rfl))
  simp only [List.getElem_toArray, List.getElem_cons_succ, List.getElem_cons_zero, Act.put, List.setIfInBounds_toArray, List.set_cons_zero, List.set_cons_succ]
  refine wpAnyH_take (i := 5) (v := ?_) rfl (by kernel_rfl) (by kernel_rfl) (by kernel_rfl) (fun _ _ _ h => h) (Or.inl ⟨by rfl, ?_⟩) hHeld ?_
  rotate_left
  · (intro w hSw; obtain ⟨⟨y0, y1, y2⟩, y3⟩ := hSw; go_simp; (try with_reducible rfl))
  simp only [List.getElem_toArray, List.getElem_cons_succ, List.getElem_cons_zero, Act.put, List.setIfInBounds_toArray, List.set_cons_zero, List.set_cons_succ]
  refine wpAnyH_take (i := 6) (v := ?_) rfl (by kernel_rfl) (by kernel_rfl) (by kernel_rfl) (fun _ _ _ h => h) (Or.inl ⟨by rfl, ?_⟩) hHeld ?_
  rotate_left
  · (intro w hSw; obtain ⟨⟨y0, y1, y2⟩, y3⟩ := hSw; have y4 := y3.conv; go_simp; (try with_reducible rfl))
  simp only [List.getElem_toArray, List.getElem_cons_succ, List.getElem_cons_zero, Act.put, List.setIfInBounds_toArray, List.set_cons_zero, List.set_cons_succ]
  refine wpAnyH_ready (rs := [4]) (by kernel_rfl) (by simp) (AllReadyH.cons rfl (fun K hK => ?_) AllReadyH.nil)
  refine step_fn rfl (.func 56) [.tmp 48, .tmp 49] _ rfl 56 [] (by simp [Act.eval]) _ Try.func56 (by kernel_rfl) (by kernel_rfl) (KP.out _) (by rfl) ?_
  rintro e w7 ⟨rfl, b7⟩
  refine ⟨_, rfl, ?_⟩
  have B7 := Lib.hid (B6.out.drew.trans (b7.mono B6.out.size))
  have T7 := Lib.hid (show Below W6.heap.size W6 w7 from (Below.refl _ _).drew.trans b7)
  clear b7
  refine hK.out _ _ (SS.out _ T7.out) (fun hHeld => ?_)
  clear hK K
  simp only [List.getElem_toArray, List.getElem_cons_succ, List.getElem_cons_zero, Act.put, List.setIfInBounds_toArray, List.set_cons_zero, List.set_cons_succ]
  have KW := Lib.hid (Disk.write_any (HH.out.later B7.out) HF.out PF.out (bs sec) SLEN.out HLO.out)
  refine wpAnyH_ready (rs := [7]) (by kernel_rfl) (by simp) (AllReadyH.cons rfl (fun K hK => ?_) AllReadyH.nil)
  refine step_fn rfl (.func 55) [.tmp 47, .tmp 50, .tmp 52] _ rfl 55 [] (by simp [Act.eval]) _ Try.func55 (by kernel_rfl) (by kernel_rfl) KW.out (by rfl) ?_
  rintro e w8 ⟨rfl, r8, t8⟩
  refine ⟨_, rfl, ?_⟩
  have R8 := Lib.hid (PO.out _ _ B7.out r8 t8)
  have T8 := Lib.hid ((Disk.Touch.ofNew (F := F) T7.out).trans' t8)
  clear r8 t8 KW
  refine hK.out _ _ (SW.out _ T8.out) (fun hHeld => ?_)
  clear hK K
  simp only [List.getElem_toArray, List.getElem_cons_succ, List.getElem_cons_zero, Act.put, List.setIfInBounds_toArray, List.set_cons_zero, List.set_cons_succ]
  refine wpAnyH_take (i := 8) (v := ?_) rfl (by kernel_rfl) (by kernel_rfl) (by kernel_rfl) (fun _ _ _ h => h) (Or.inl ⟨by rfl, ?_⟩) hHeld ?_
  rotate_left
  · (intro w hSw; obtain ⟨⟨y0, y1, y2⟩, y3⟩ := hSw; go_simp; (try with_reducible rfl))
  simp only [List.getElem_toArray, List.getElem_cons_succ, List.getElem_cons_zero, Act.put, List.setIfInBounds_toArray, List.set_cons_zero, List.set_cons_succ]
  refine wpAnyH_done (by kernel_rfl) ?_ _
  refine NoPanic.normal ?_
  go_wp2_with fail
  go_ret
  exact R8.out

end Go.Proofs.Ytgohpompgiljiaa.Log

namespace Go.Proofs.Ytgohpompgiljiaa.Bld
open Go.RowKit
attribute [local go_sem ↓] Go.wp_at_zero Go.wp_at_succ

theorem size_b : (Try.prog.info? 110).map (·.size) = some 2 := by kernel_rfl
theorem lies_b : liesAt Try.prog Try.prog.depth 110 (2 / Try.prog.cellsOf 110) 0 110 1 = true := by kernel_rfl
set_option maxRecDepth 100000 in
set_option maxHeartbeats 1000000 in
theorem check_fresh (b : Nat) (w : World) (h0 : w.cell? ⟨b, 0, none⟩ = some (.pointer none)) (hsh : w.shape? b = some (110, 2)) (hfz : w.frozen? ⟨b, 0, none⟩ = false) :
    Calls Try.prog 71 #[.pointer (some ⟨b, 0, none⟩)] w fun e w' => e = .returned (.tuple #[]) ∧ w' = w.setCell ⟨b, 0, none⟩ (.pointer (some ⟨b, 0, none⟩)) := by
  obtain ⟨j, hj, hjs⟩ := Option.map_eq_some_iff.1 size_b
  go_enter Try.func71, Try.ntmps71
  go_wp2
  rw [Lib.run_to_unsafe w ⟨b, 0, none⟩ Try.underlying108 Try.underlying135 hj (by rw [hjs]; decide) hsh (Nat.zero_lt_succ 1)]
  simp only [Result.andThen]
  rw [Oper.upon_value]
  go_wp2
  rw [run_callFunc_extern Try.func75 (by kernel_rfl) (by kernel_rfl) (by kernel_rfl) (e := Extern.AbiNoEscape.same) (by kernel_rfl)]
  rw [Lib.run_noEscape]
  simp only [Result.andThen]
  rw [Oper.upon_value]
  go_wp2
  rw [Lib.run_from_unsafe w ⟨b, 0, none⟩ Try.underlying135 Try.underlying108 hj hsh lies_b]
  simp only [Result.andThen]
  rw [Oper.upon_value]
  go_wp2
  go_end0
  exact ⟨rfl, rfl⟩
/-- all but the builder's own blocks lies as it lay -/
def Kept (b : Nat) (w w' : World) : Prop := ∀ (x : Nat) (cs : Array Value) (t : TypeId) (fz : Nat × Nat), w.heap[x]? = some (.cells cs t fz) → t ≠ 5 → x ≠ b → w'.heap[x]? = some (.cells cs t fz)
theorem Kept.refl (b : Nat) (w : World) : Kept b w w := fun _ _ _ _ h _ _ => h
theorem Kept.trans {b : Nat} {u v w : World} (h : Kept b u v) (k : Kept b v w) : Kept b u w := fun x cs t fz h1 h2 h3 => k x cs t fz (h x cs t fz h1 h2 h3) h2 h3
theorem Kept.below {b : Nat} {w w' : World} (h : Below w.heap.size w w') : Kept b w w' := fun x _ _ _ h1 _ _ => (h.block x (Array.getElem?_eq_some_iff.1 h1).1).trans h1
theorem Kept.set {b : Nat} (w : World) (j : Nat) (v : Value) : Kept b w (w.setCell ⟨b, j, none⟩ v) := fun x _ _ _ h1 _ h3 => (heap_setCell_other _ _ _ _ (by simpa using h3)).trans h1
theorem check_any {B b : Nat} {bs : List Value} {w : World} (h : Lib.IsBuilder 110 5 B b bs w) :
    Calls Try.prog 71 #[.pointer (some ⟨b, 0, none⟩)] w fun e w' => e = .returned (.tuple #[]) ∧ (Lib.BuilderAt 110 5 B b (.pointer (some ⟨b, 0, none⟩)) bs w' ∧ Below B w w' ∧ Kept b w w') := by
  rcases h with h | h
  · refine (check_fresh b w h.cell0 h.shape h.frozen0).mono ?_
    rintro e w' ⟨rfl, rfl⟩
    exact ⟨rfl, h.used _, (Below.refl B w).setCell (p := ⟨b, 0, none⟩) h.1 _, Kept.set _ _ _⟩
  · refine (Disk.check_used h.cell0).mono ?_
    rintro e w' ⟨rfl, rfl⟩
    exact ⟨rfl, h, Below.refl B _, Kept.refl _ _⟩
set_option maxRecDepth 100000 in
set_option maxHeartbeats 2000000 in
theorem wstr_any {B b : Nat} {bs : List Value} {w : World} (s : ByteArray) (h : Lib.IsBuilder 110 5 B b bs w) (hlen : bs.length + s.size ≤ 1000000000) (hBw : B ≤ w.heap.size) :
    Calls Try.prog 63 #[.pointer (some ⟨b, 0, none⟩), .string s] w fun e w' => e = .returned (.tuple #[.int .i64 (s.size : Int), .nilIface]) ∧ (Lib.IsBuilder 110 5 B b (bs ++ Lib.strCells s) w' ∧ Below B w w' ∧ Kept b w w') := by
  have KC := Lib.hid (check_any h)
  obtain ⟨i0, hi, hz0, hz1, hz2⟩ := info_parts Disk.info5
  clear h
  go_enter Try.func63, Try.ntmps63
  go_wp2_with fail
  refine KC.out.mono ?_
  rintro e w1 ⟨rfl, h1, hb1, hk1⟩
  have HK1 := Lib.hid hk1
  clear hk1
  obtain ⟨hB, v, hbk, hown, hne⟩ := h1
  have c0 : w1.cell? ⟨b, 0, none⟩ = some (.pointer (some ⟨b, 0, none⟩)) := by rw [cell_of_row w1 b 0 _ _ _ hbk]; rfl
  have c1 : w1.cell? ⟨b, 1, none⟩ = some v := by rw [cell_of_row w1 b 1 _ _ _ hbk]; rfl
  have HB := Lib.hid hbk
  have HO := Lib.hid hown
  have HN := Lib.hid hne
  have HB1 := Lib.hid hb1
  clear hbk hown hne hb1 KC
  go_wp2_with (at_builtin; refine Lib.wpList_append_own_string _ rfl _ _ 55 9 rfl B 5 i0 Try.underlying55 Try.underlying9 hi hz0 hz1 hz2 _ _ _ rfl HO.out s rfl (by unfold maxLen; omega) (by omega) (by have := HB1.out.size; omega) ?_)
  intro v' w2 hown' hgrow _
  have hlt : b < w1.heap.size := (Array.getElem?_eq_some_iff.1 HB.out).1
  have hb2 : w2.heap[b]? = some (.cells #[.pointer (some ⟨b, 0, none⟩), v] 110 (0, 0)) := by
    rw [hgrow.block b hlt (fun e => HN.out e.symm)]
    exact HB.out
  have d1 : w2.cell? ⟨b, 1, none⟩ = some v := by rw [cell_of_row w2 b 1 _ _ _ hb2]; rfl
  have f1 : w2.frozen? ⟨b, 1, none⟩ = false := frozen_of_row _ _ _ _ _ hb2
  obtain ⟨ao, n', cap, rfl⟩ : ∃ ao n' cap, v' = .slice ao n' cap := by
    rcases hown'.2 with ⟨hv, _⟩ | ⟨g, cap, cur, hv, _⟩
    · exact ⟨_, _, _, hv⟩
    · exact ⟨_, _, _, hv⟩
  have P := Lib.hid (Lib.BuilderAt.put (T := 110) (e := 5) hB hb2 (bs' := bs ++ Lib.strCells s) (by simpa [Lib.strCells_length] using hown') (by decide))
  have Q := Lib.hid ((HB1.out.grown hgrow (by have := HB1.out.size; omega) (fun k hk => (HO.out.lt k hk).1)).setCell (p := ⟨b, 1, none⟩) hB (.slice ao n' cap))
  have KK := Lib.hid (show Kept b w (w2.setCell ⟨b, 1, none⟩ (.slice ao n' cap)) from (HK1.out.trans (fun x cs t fz h1 h2 h3 => by
    refine (hgrow.block x (Array.getElem?_eq_some_iff.1 h1).1 (fun e => ?_)).trans h1
    rcases HO.out.2 with ⟨hv, _⟩ | ⟨g, cap2, cur, hv, _, hg, _⟩
    · rw [hv] at e; simp [Value.ownBlock] at e
    · rw [hv] at e
      simp [Value.ownBlock] at e
      subst e
      rw [hg] at h1
      simp at h1
      exact h2 h1.2.1.symm)).trans (Kept.set _ _ _))
  clear hown' hgrow hb2 c0 c1 HB HO HN HB1 hlt
  go_wp2_with fail
  go_ret2
  exact ⟨rfl, .inr P.out, Q.out, KK.out⟩
theorem str_any {B b : Nat} (l : List UInt8) {w : World} (h : Lib.IsBuilder 110 5 B b (Lib.byteCells l) w) (hBw : B ≤ w.heap.size) :
    Calls Try.prog 64 #[.pointer (some ⟨b, 0, none⟩)] w fun e w' => e = .returned (.string ⟨l.toArray⟩) ∧ Below B w w' := Try.Builder_String_any B b l w h hBw
/-- a fresh one -/
theorem fresh_b (w : World) (B : Nat) (hB : B ≤ w.heap.size) : Lib.IsBuilder 110 5 B w.heap.size [] (w.alloc (.cells #[.pointer none, .slice none 0 0] 110)) :=
  .inl ⟨hB, .slice none 0 0, heap_alloc_new _ _, World.ownsRow_nil _ _ _ _, by simp [Value.ownBlock]⟩

end Go.Proofs.Ytgohpompgiljiaa.Bld

namespace Go.Proofs.Ytgohpompgiljiaa.Log
open Go.RowKit
open Go.Proofs.Ytgohpompgiljiaa.Sl (Sl Step re)
open Go.Proofs.Ytgohpompgiljiaa.Disk (D Rep grew now)
open Go.Proofs.Ytgohpompgiljiaa.Frame (L L_ext L_app)
attribute [local go_sem ↓] Go.wp_at_zero Go.wp_at_succ

/-- the k-th stretch's sector, as the disk has it -/
def secN (d : D) (a n k : Nat) : List UInt8 := now d (a + k % n)
theorem secN_len {d : D} (h : d.ok) {a n k : Nat} (h4 : 4 ≤ n) (ha : a + n ≤ d.sure.length) : (secN d a n k).length = 128 := Disk.now_len h (by have := Nat.mod_lt k (show 0 < n by omega); omega)
/-- the blocks of a stream's walk -/
structure Stm (B : Nat) (w wr : World) (gr gb : Nat) (pv : Value) (a n : Nat) (acc : List UInt8) : Prop where
  ring : wr.heap[gr]? = some (.cells (ringC pv a n) 61 (0, 0))
  bld : Lib.IsBuilder 110 5 B gb (Lib.byteCells acc) wr
  below : Below w.heap.size w wr
  ne : gr ≠ gb
  hB : w.heap.size ≤ B ∧ B ≤ wr.heap.size
section
variable {B gr gb a n : Nat} {w wr wr' : World} {pv : Value} {acc : List UInt8}
theorem Stm.rcells (h : Stm B w wr gr gb pv a n acc) : wr.cell? ⟨gr, 0, none⟩ = some pv ∧ wr.cell? ⟨gr, 1, none⟩ = some (.int .i64 (a : Int)) ∧ wr.cell? ⟨gr, 2, none⟩ = some (.int .i64 (n : Int)) := by
  refine ⟨?_, ?_, ?_⟩ <;> (rw [cell_of_row _ _ _ _ _ _ h.ring]; rfl)
theorem isBuilder_later {T e : TypeId} {B b : Nat} {bs : List Value} (h : Lib.IsBuilder T e B b bs wr) (t : Below wr.heap.size wr wr') : Lib.IsBuilder T e B b bs wr' := by
  have key : ∀ p, Lib.BuilderAt T e B b p bs wr → Lib.BuilderAt T e B b p bs wr' := fun p ⟨h1, v, h2, h3, h4⟩ =>
    ⟨h1, v, (t.block b (Array.getElem?_eq_some_iff.1 h2).1).trans h2, Disk.ownsRow_far h3 (fun x hx => t.block x (h3.lt x hx).2), h4⟩
  exact h.imp (key _) (key _)
theorem Stm.later (h : Stm B w wr gr gb pv a n acc) (t : Below wr.heap.size wr wr') : Stm B w wr' gr gb pv a n acc :=
  ⟨(t.block _ (Array.getElem?_eq_some_iff.1 h.ring).1).trans h.ring, isBuilder_later h.bld t, h.below.trans (t.mono h.below.size), h.ne, h.hB.1, Nat.le_trans h.hB.2 t.size⟩
theorem Stm.wrote (h : Stm B w wr gr gb pv a n acc) {acc' : List UInt8} (hb : Lib.IsBuilder 110 5 B gb (Lib.byteCells acc') wr') (hl : Below B wr wr') (hk : Bld.Kept gb wr wr') : Stm B w wr' gr gb pv a n acc' :=
  ⟨hk _ _ _ _ h.ring (by decide) h.ne, hb, h.below.trans (hl.mono h.hB.1), h.ne, h.hB.1, Nat.le_trans h.hB.2 hl.size⟩
end
theorem strCells_bs (t : List UInt8) : Lib.strCells (bs t) = Lib.byteCells t := by unfold Lib.strCells Lib.byteCells bs; rfl
theorem byteCells_app (s t : List UInt8) : Lib.byteCells (s ++ t) = Lib.byteCells s ++ Lib.byteCells t := by unfold Lib.byteCells; rw [List.map_append]

theorem Stm.gblt {B gr gb a n : Nat} {w wr : World} {pv : Value} {acc : List UInt8} (h : Stm B w wr gr gb pv a n acc) : gb < wr.heap.size := by
  rcases h.bld with ⟨_, v, h2, _⟩ | ⟨_, v, h2, _⟩ <;> exact (Array.getElem?_eq_some_iff.1 h2).1
def StmP (S : List UInt8) (w : World) (e : Ending) (w' : World) : Prop := e = .returned (.tuple #[.string (bs S), .int .i64 0]) ∧ Below w.heap.size w w'
set_option maxRecDepth 100000 in
set_option maxHeartbeats 4000000 in
theorem stream_any {w : World} {p : Nat} {d : D} {F : Nat → Prop} (h : Rep w p d F) (hf : d.fuse ≠ 0) (a n k life : Nat) (h4 : 4 ≤ n) (h12 : n ≤ 4096) (ha : a + n ≤ d.sure.length) (hk : k ≤ 9000000000) (_hl9 : life ≤ 1000000000) :
    Calls Try.prog 43 #[ringV (.pointer (some ⟨p, 0, none⟩)) a n, .int .u64 (k : Int), .int .u64 (life : Int)] w (StmP (strm (secN d a n) life n k 0) w) := by
  have hmost := h.ok.most
  have HH := Lib.hid h
  have OK := Lib.hid h.ok
  have HF := Lib.hid hf
  have PO := Lib.hid (show ∀ S W, strm (secN d a n) life n k 0 = S → Below w.heap.size w W → StmP (strm (secN d a n) life n k 0) w (.returned (.tuple #[.string (bs S), .int .i64 0])) W from fun S W h1 h2 => ⟨by rw [h1], h2⟩)
  have KP := Lib.hid (fun j W => place_any (.pointer (some ⟨p, 0, none⟩)) a n j W h4 h12 (by omega))
  have KR := Lib.hid (fun j W (b : Below w.heap.size w W) => Disk.read_any (HH.out.later b) HF.out (k := a + j % n) (by have := Nat.mod_lt j (show 0 < n by omega); omega))
  have KD := Lib.hid (fun j W => rd_any (bs (secN d a n j)) W (by rw [bs_size]; exact secN_len OK.out h4 ha))
  have HA := Lib.hid ha
  have BN := Lib.hid (below_new w (.cells (ringC (.pointer (some ⟨p, 0, none⟩)) a n) 61))
  have HR := Lib.hid (heap_alloc_new w (.cells (ringC (.pointer (some ⟨p, 0, none⟩)) a n) 61))
  have HS := Lib.hid (show (w.alloc (.cells (ringC (.pointer (some ⟨p, 0, none⟩)) a n) 61)).heap.size = w.heap.size + 1 by simp)
  clear h hf ha
  unfold ringV
  go_enter Try.func43, Try.ntmps43
  unfold ringC
  go_upto_region 1 with fail
  have HC : #[.pointer (some ⟨p, 0, none⟩), .int .i64 (a : Int), .int .i64 (n : Int)] = ringC (.pointer (some ⟨p, 0, none⟩)) a n := rfl
  rw [HC]
  generalize w.alloc _ = W1 at *
  have T0 : Hid (Stm W1.heap.size w (W1.alloc (.cells #[.pointer none, .slice none 0 0] 110)) w.heap.size W1.heap.size (.pointer (some ⟨p, 0, none⟩)) a n []) := Lib.hid
    ⟨(Below.heap_alloc W1 _ _ (Array.getElem?_eq_some_iff.1 HR.out).1).trans HR.out, Bld.fresh_b W1 _ (Nat.le_refl _), BN.out.trans ((below_new W1 _).mono BN.out.size), by rw [HS.out]; omega, BN.out.size, by simp⟩
  have hgb : w.heap.size + 1 = W1.heap.size := HS.out.symm
  obtain ⟨gr, hgr⟩ : ∃ gr, gr = w.heap.size := ⟨_, rfl⟩
  have HGR := Lib.hid hgr
  rw [← hgr] at T0 ⊢
  obtain ⟨gb, hgb2⟩ : ∃ gb, gb = W1.heap.size := ⟨_, rfl⟩
  have T00 : Hid (Stm gb w (W1.alloc (.cells #[.pointer none, .slice none 0 0] 110)) gr gb (.pointer (some ⟨p, 0, none⟩)) a n []) := Lib.hid (by rw [hgb2]; exact T0.out)
  clear HC BN HR HS hgb T0 hgr
  go_wp2_with fail
  go_step3
  go_wp2_with fail
  go_step3
  go_wp2_with fail
  rw [← hgb2]
  clear hgb2
  generalize W1.alloc _ = W2 at *
  go_loopw [9, 10] (fun lv iv wr => ∃ (i lst : Nat) (acc : List UInt8), k ≤ i ∧ i ≤ k + n ∧ lv = .int .u64 (lst : Int) ∧ iv = .int .u64 (i : Int) ∧ Stm gb w wr gr gb (.pointer (some ⟨p, 0, none⟩)) a n acc ∧ acc ++ strm (secN d a n) life (k + n - i) i lst = strm (secN d a n) life n k 0 ∧ acc.length ≤ (i - k) * 110) (fun _ iv _ => k + n - (intOf iv).toNat)
  case atStart => exact ⟨k, 0, [], by omega, by omega, rfl, rfl, T00.out, by rw [List.nil_append, show k + n - k = n from by omega], by simp⟩
  case round =>
    obtain ⟨i, lst, acc, hi1, hi2, rfl, rfl, ht, heq, hal⟩ := hrel
    have T1 := Lib.hid ht
    have EQ := Lib.hid heq
    clear ht heq T00
    obtain ⟨r0, r1, r2⟩ := T1.out.rcells
    have wn : IntKind.u64.wrap (n : Int) = (n : Int) := wrap_u64 (by omega) (by omega)
    by_cases hlt : i < k + n
    · have t1 : decide ((i : Int) < (k : Int) + (n : Int)) = true := decide_eq_true (by omega)
      have KB := Lib.hid (fun W => beginning_any i W (by omega))
      have KDi := Lib.hid (fun W => KD.out i W)
      have SL := Lib.hid (secN_len OK.out (k := i) h4 HA.out)
      have ST := Lib.hid (show strm (secN d a n) life (k + n - i) i lst = if plsn (secN d a n i) ≠ i * 110 ∨ plife (secN d a n i) < lst ∨ life < plife (secN d a n i) then [] else if (ptext (secN d a n i)).length < 110 then ptext (secN d a n i) else ptext (secN d a n i) ++ strm (secN d a n) life (k + n - i - 1) (i + 1) (plife (secN d a n i)) from strm_pos _ _ (by omega) _ _)
      have HLT := Lib.hid hlt
      clear hlt KD
      go_upto_region 6 with fail
      clear t1 r0 r1 r2
      refine wp_region_noPanic ?_
      refine wp_region_held_drew (S := fun W => W.cell? ⟨gr, 0, none⟩ = some (.pointer (some ⟨p, 0, none⟩)) ∧ W.cell? ⟨gr, 1, none⟩ = some (.int .i64 (a : Int)) ∧ W.cell? ⟨gr, 2, none⟩ = some (.int .i64 (n : Int))) (by kernel_rfl) (T1.out.later (Below.refl _ _).drew).rcells (fun hHeld => ?_)
      refine wpAnyH_take (i := 0) (v := ?_) rfl (by kernel_rfl) (by kernel_rfl) (by kernel_rfl) (fun _ _ _ h => h) (Or.inl ⟨by rfl, ?_⟩) hHeld ?_
      rotate_left
      · (intro w hSw; obtain ⟨y0, y1, y2⟩ := hSw; go_simp; (try with_reducible rfl))
      simp only [List.getElem_toArray, List.getElem_cons_zero, Act.put, List.setIfInBounds_toArray, List.set_cons_zero, List.set_cons_succ]
      refine wpAnyH_take (i := 1) (v := ?_) rfl (by kernel_rfl) (by kernel_rfl) (by kernel_rfl) (fun _ _ _ h => h) (Or.inl ⟨by rfl, ?_⟩) hHeld ?_
      rotate_left
      · (intro w hSw; obtain ⟨y0, y1, y2⟩ := hSw; go_simp; (try with_reducible rfl))
      simp only [List.getElem_toArray, List.getElem_cons_succ, List.getElem_cons_zero, Act.put, List.setIfInBounds_toArray, List.set_cons_zero, List.set_cons_succ]
      refine wpAnyH_take (i := 2) (v := ?_) rfl (by kernel_rfl) (by kernel_rfl) (by kernel_rfl) (fun _ _ _ h => h) (Or.inl ⟨by rfl, ?_⟩) hHeld ?_
      rotate_left
      · (intro w hSw; obtain ⟨y0, y1, y2⟩ := hSw; go_simp; (try with_reducible rfl))
      simp only [List.getElem_toArray, List.getElem_cons_succ, List.getElem_cons_zero, Act.put, List.setIfInBounds_toArray, List.set_cons_zero, List.set_cons_succ]
      refine wpAnyH_take (i := 3) (v := ?_) rfl (by kernel_rfl) (by kernel_rfl) (by kernel_rfl) (fun _ _ _ h => h) (Or.inl ⟨by rfl, ?_⟩) hHeld ?_
      rotate_left
      · (intro w hSw; obtain ⟨y0, y1, y2⟩ := hSw; go_simp; (try with_reducible rfl))
      simp only [List.getElem_toArray, List.getElem_cons_succ, List.getElem_cons_zero, Act.put, List.setIfInBounds_toArray, List.set_cons_zero, List.set_cons_succ]
      refine wpAnyH_ready (rs := [4]) (by kernel_rfl) (by simp) (AllReadyH.cons rfl (fun K hK => ?_) AllReadyH.nil)
      refine step_fn rfl (.func 56) [.tmp 27, .tmp 28] _ rfl 56 [] (by simp [Act.eval]) _ Try.func56 (by kernel_rfl) (by kernel_rfl) (KP.out i _) (by rfl) ?_
      rintro e w7 ⟨rfl, b7⟩
      refine ⟨_, rfl, ?_⟩
      have T2 := Lib.hid (T1.out.later ((Below.refl _ _).drew.trans b7))
      clear b7
      refine hK.out _ _ T2.out.rcells (fun hHeld => ?_)
      clear hK K
      simp only [List.getElem_toArray, List.getElem_cons_succ, List.getElem_cons_zero, Act.put, List.setIfInBounds_toArray, List.set_cons_zero, List.set_cons_succ]
      have KR1 := Lib.hid (KR.out i w7 T2.out.below)
      refine wpAnyH_ready (rs := [5]) (by kernel_rfl) (by simp) (AllReadyH.cons rfl (fun K hK => ?_) AllReadyH.nil)
      refine step_fn rfl (.func 25) [.tmp 26, .tmp 29] _ rfl 25 [] (by simp [Act.eval]) _ Try.func25 (by kernel_rfl) (by kernel_rfl) KR1.out (by rfl) ?_
      rintro e w8 ⟨rfl, rfl⟩
      refine ⟨_, rfl, ?_⟩
      refine hK.out _ _ T2.out.rcells (fun hHeld => ?_)
      clear hK K KR1
      simp only [List.getElem_toArray, List.getElem_cons_succ, List.getElem_cons_zero, Act.put, List.setIfInBounds_toArray, List.set_cons_zero, List.set_cons_succ]
      refine wpAnyH_take (i := 6) (v := ?_) rfl (by kernel_rfl) (by kernel_rfl) (by kernel_rfl) (fun _ _ _ h => h) (Or.inl ⟨by rfl, ?_⟩) hHeld ?_
      rotate_left
      · (intro w hSw; obtain ⟨y0, y1, y2⟩ := hSw; go_simp; (try with_reducible rfl))
      simp only [List.getElem_toArray, List.getElem_cons_succ, List.getElem_cons_zero, Act.put, List.setIfInBounds_toArray, List.set_cons_zero, List.set_cons_succ]
      refine wpAnyH_take (i := 7) (v := ?_) rfl (by kernel_rfl) (by kernel_rfl) (by kernel_rfl) (fun _ _ _ h => h) (Or.inl ⟨by rfl, ?_⟩) hHeld ?_
      rotate_left
      · (intro w hSw; obtain ⟨y0, y1, y2⟩ := hSw; go_simp; (try with_reducible rfl))
      simp only [List.getElem_toArray, List.getElem_cons_succ, List.getElem_cons_zero, Act.put, List.setIfInBounds_toArray, List.set_cons_zero, List.set_cons_succ]
      refine wpAnyH_take (i := 8) (v := ?_) rfl (by kernel_rfl) (by kernel_rfl) (by kernel_rfl) (fun _ _ _ h => h) (Or.inl ⟨by rfl, ?_⟩) hHeld ?_
      rotate_left
      · (intro w hSw; obtain ⟨y0, y1, y2⟩ := hSw; go_simp; (try with_reducible rfl))
      simp only [List.getElem_toArray, List.getElem_cons_succ, List.getElem_cons_zero, Act.put, List.setIfInBounds_toArray, List.set_cons_zero, List.set_cons_succ]
      refine wpAnyH_take (i := 9) (v := ?_) rfl (by kernel_rfl) (by kernel_rfl) (by kernel_rfl) (fun _ _ _ h => h) (Or.inl ⟨by rfl, ?_⟩) hHeld ?_
      rotate_left
      · (intro w hSw; obtain ⟨y0, y1, y2⟩ := hSw; go_simp; (try with_reducible rfl))
      simp only [List.getElem_toArray, List.getElem_cons_succ, List.getElem_cons_zero, Act.put, List.setIfInBounds_toArray, List.set_cons_zero, List.set_cons_succ]
      refine wpAnyH_take (i := 10) (v := ?_) rfl (by kernel_rfl) (by kernel_rfl) (by kernel_rfl) (fun _ _ _ h => h) (Or.inl ⟨by rfl, ?_⟩) hHeld ?_
      rotate_left
      · (intro w hSw; obtain ⟨y0, y1, y2⟩ := hSw; go_simp; (try with_reducible rfl))
      simp only [List.getElem_toArray, List.getElem_cons_succ, List.getElem_cons_zero, Act.put, List.setIfInBounds_toArray, List.set_cons_zero, List.set_cons_succ]
      refine wpAnyH_done (by kernel_rfl) ?_ _
      refine NoPanic.normal ?_
      change Hid (∀ W, Calls Try.prog 62 #[.string (bs (secN d a n i))] W (ReadP (bs (secN d a n i)) W)) at KDi
      have e1 : (⟨(now d (a + i % n)).toArray⟩ : ByteArray) = bs (secN d a n i) := rfl
      rw [e1]
      clear e1
      have l1 : L (bs (secN d a n i)) = secN d a n i := L_bs _
      have KD1 := Lib.hid (fun W => show Calls Try.prog 62 #[.string (bs (secN d a n i))] W fun e w' => e = .returned (pieV (plsn (secN d a n i)) (plife (secN d a n i)) (bs (ptext (secN d a n i)))) ∧ Below W.heap.size W w' from by have := KDi.out W; unfold ReadP at this; rw [l1] at this; exact this)
      clear KDi l1
      obtain ⟨sc, hsc⟩ : ∃ sc, sc = secN d a n i := ⟨_, rfl⟩
      rw [← hsc] at KD1 SL ST ⊢
      have HSC := Lib.hid hsc
      clear hsc
      have hpl := plife_lt sc
      have hpt := ptext_le sc
      have hpn := plsn_lt sc
      obtain ⟨pl, hpl2⟩ : ∃ pl, pl = plife sc := ⟨_, rfl⟩
      obtain ⟨pn, hpn2⟩ : ∃ pn, pn = plsn sc := ⟨_, rfl⟩
      obtain ⟨pt, hpt2⟩ : ∃ pt, pt = ptext sc := ⟨_, rfl⟩
      rw [← hpl2] at KD1 ST hpl
      rw [← hpn2] at KD1 ST hpn
      rw [← hpt2] at KD1 ST hpt
      clear hpl2 hpn2 hpt2
      have PTS := Lib.hid (bs_size pt)
      have STC := Lib.hid (show ∀ w', Lib.byteCells acc ++ Lib.strCells (bs pt) = Lib.byteCells (acc ++ pt) ∧ (w' : World) = w' from fun _ => ⟨by rw [strCells_bs, byteCells_app], rfl⟩)
      obtain ⟨ps, hps⟩ : ∃ ps, ps = bs pt := ⟨_, rfl⟩
      rw [← hps] at KD1 PTS STC
      clear hps
      unfold pieV pieC at KD1
      go_wp2_with fail
      refine (KD1.out _).mono ?_
      rintro e w9 ⟨rfl, b9⟩
      have T3 := Lib.hid ((T2.out.later b9).later (below_new w9 (.cells #[.int .u64 (pn : Int), .int .u64 (pl : Int), .string ps] 112)))
      have PB := Lib.hid (heap_alloc_new w9 (.cells #[.int .u64 (pn : Int), .int .u64 (pl : Int), .string ps] 112))
      have PNE := Lib.hid (show w9.heap.size ≠ gb from by have := (T2.out.later b9).gblt; omega)
      clear b9 T1 T2 KD1
      go_upto_region 10 with fail
      generalize w9.alloc _ = W3 at *
      generalize w9.heap.size = gp at *
      have q0 : W3.cell? ⟨gp, 0, none⟩ = some (.int .u64 (pn : Int)) := by rw [cell_of_row _ _ _ _ _ _ PB.out]; rfl
      by_cases c1 : pn = i * 110
      · have e1 : ((pn : Int) != ((i * 110 : Nat) : Int)) = false := by rw [c1]; simp
        have e1' : ((pn : Int) != (i : Int) * 110) = false := by rw [c1]; simp
        have C1 := Lib.hid c1
        clear c1
        go_quiet ((go_at_call 35; exact Calls.quiet_of_same (quiet_one (KB.out _))))
        have T4 := Lib.hid (T3.out.later (below_drewN W3 nq))
        have P4 : Hid ((W3.drewN nq).heap[gp]? = some (.cells #[.int .u64 (pn : Int), .int .u64 (pl : Int), .string ps] 112 (0, 0))) := Lib.hid ((below_drewN W3 nq).block gp (Array.getElem?_eq_some_iff.1 PB.out).1 |>.trans PB.out)
        clear q0 T3 PB e1 e1' KB
        generalize W3.drewN nq = W4 at *
        have q1 : W4.cell? ⟨gp, 1, none⟩ = some (.int .u64 (pl : Int)) := by rw [cell_of_row _ _ _ _ _ _ P4.out]; rfl
        have q2 : W4.cell? ⟨gp, 2, none⟩ = some (.string ps) := by rw [cell_of_row _ _ _ _ _ _ P4.out]; rfl
        by_cases c2 : pl < lst
        · have e2 : decide (pl < lst) = true := decide_eq_true c2
          have EE := Lib.hid (show strm (secN d a n) life n k 0 = acc from by rw [← EQ.out, ST.out, if_pos (.inr (.inl c2)), List.append_nil])
          go_wp2_with fail
          refine (Bld.str_any _ T4.out.bld T4.out.hB.2).mono ?_
          rintro e wz ⟨rfl, bz⟩
          have BZ := Lib.hid (T4.out.below.trans (bz.mono T4.out.hB.1))
          clear bz
          go_wp2_with fail
          rw [Exit.noGoto_ret]
          go_ret2
          exact PO.out _ _ EE.out BZ.out
        · have e2 : decide (pl < lst) = false := decide_eq_false c2
          by_cases c3 : life < pl
          · have e3 : decide (life < pl) = true := decide_eq_true c3
            have EE := Lib.hid (show strm (secN d a n) life n k 0 = acc from by rw [← EQ.out, ST.out, if_pos (.inr (.inr c3)), List.append_nil])
            go_wp2_with fail
            refine (Bld.str_any _ T4.out.bld T4.out.hB.2).mono ?_
            rintro e wz ⟨rfl, bz⟩
            have BZ := Lib.hid (T4.out.below.trans (bz.mono T4.out.hB.1))
            clear bz
            go_wp2_with fail
            rw [Exit.noGoto_ret]
            go_ret2
            exact PO.out _ _ EE.out BZ.out
          · have e3 : decide (life < pl) = false := decide_eq_false c3
            have ST2 := Lib.hid (show strm (secN d a n) life (k + n - i) i lst = if pt.length < 110 then pt else pt ++ strm (secN d a n) life (k + n - i - 1) (i + 1) pl from by rw [ST.out, if_neg (fun hh => hh.elim (fun h => h C1.out) (fun hh => hh.elim c2 c3))])
            have KW := Lib.hid (Bld.wstr_any ps T4.out.bld (by rw [Disk.byteCells_len, PTS.out]; have : (i - k) * 110 ≤ 4096 * 110 := Nat.mul_le_mul_right _ (by omega); omega) T4.out.hB.2)
            rw [(STC.out W4).1] at KW
            clear ST
            go_wp2_with fail
            refine KW.out.mono ?_
            rintro e w6 ⟨rfl, i6, b6, k6⟩
            have T6 := Lib.hid (T4.out.wrote i6 b6 k6)
            have P6 := k6 _ _ _ _ P4.out (by decide) PNE.out
            have q16 : w6.cell? ⟨gp, 1, none⟩ = some (.int .u64 (pl : Int)) := by rw [cell_of_row _ _ _ _ _ _ P6]; rfl
            have q26 : w6.cell? ⟨gp, 2, none⟩ = some (.string ps) := by rw [cell_of_row _ _ _ _ _ _ P6]; rfl
            clear i6 b6 k6 P6 T4 P4 q1 q2 KW e2 e3 STC
            by_cases c4 : pt.length < 110
            · have e4 : decide ((ps.size : Int) < 110) = true := decide_eq_true (by have := PTS.out; omega)
              have e4' : decide (ps.size < 110) = true := decide_eq_true (by have := PTS.out; omega)
              have EE := Lib.hid (show strm (secN d a n) life n k 0 = acc ++ pt from by rw [← EQ.out, ST2.out, if_pos c4])
              clear c4
              go_wp2_with fail
              refine (Bld.str_any _ T6.out.bld T6.out.hB.2).mono ?_
              rintro e wz ⟨rfl, bz⟩
              have BZ := Lib.hid (T6.out.below.trans (bz.mono T6.out.hB.1))
              clear bz
              go_wp2_with fail
              rw [Exit.noGoto_ret]
              go_ret2
              exact PO.out _ _ EE.out BZ.out
            · have e4 : decide ((ps.size : Int) < 110) = false := decide_eq_false (by have := PTS.out; omega)
              have e4' : decide (ps.size < 110) = false := decide_eq_false (by have := PTS.out; omega)
              have EE := Lib.hid (show (acc ++ pt) ++ strm (secN d a n) life (k + n - (i + 1)) (i + 1) pl = strm (secN d a n) life n k 0 from by
                rw [← EQ.out, ST2.out, if_neg c4, List.append_assoc, show k + n - (i + 1) = k + n - i - 1 from by omega])
              have AL := Lib.hid (show (acc ++ pt).length ≤ (i + 1 - k) * 110 from by rw [List.length_append, show i + 1 - k = (i - k) + 1 from by omega, Nat.add_mul]; omega)
              clear c4
              go_wp2_with fail
              go_roundw
              case rel => exact ⟨i + 1, pl, acc ++ pt, by omega, by have := HLT.out; omega, rfl, by go_num, T6.out, EE.out, AL.out⟩
              case measure => have := HLT.out; simp [intOf]; omega
      · have e1 : ((pn : Int) != ((i * 110 : Nat) : Int)) = true := by rw [bne_iff_ne]; omega
        have e1' : ((pn : Int) != (i : Int) * 110) = true := by rw [bne_iff_ne]; omega
        have EE := Lib.hid (show strm (secN d a n) life n k 0 = acc from by rw [← EQ.out, ST.out, if_pos (.inl c1), List.append_nil])
        clear c1
        go_quiet ((go_at_call 35; exact Calls.quiet_of_same (quiet_one (KB.out _))))
        have T4 := Lib.hid (T3.out.later (below_drewN W3 nq))
        clear q0 T3 PB e1 e1' KB
        generalize W3.drewN nq = W4 at *
        go_wp2_with fail
        refine (Bld.str_any _ T4.out.bld T4.out.hB.2).mono ?_
        rintro e wz ⟨rfl, bz⟩
        have BZ := Lib.hid (T4.out.below.trans (bz.mono T4.out.hB.1))
        clear bz
        go_wp2_with fail
        rw [Exit.noGoto_ret]
        go_ret2
        exact PO.out _ _ EE.out BZ.out
    · have t1 : decide ((i : Int) < (k : Int) + (n : Int)) = false := decide_eq_false (by omega)
      have EE := Lib.hid (show strm (secN d a n) life n k 0 = acc from by rw [← EQ.out, show k + n - i = 0 from by omega]; exact List.append_nil _)
      clear hlt
      go_wp2_with fail
      refine (Bld.str_any _ T1.out.bld T1.out.hB.2).mono ?_
      rintro e wz ⟨rfl, bz⟩
      have BZ := Lib.hid (T1.out.below.trans (bz.mono T1.out.hB.1))
      clear bz
      go_wp2_with fail
      rw [Exit.noGoto_ret]
      go_ret2
      exact PO.out _ _ EE.out BZ.out

end Go.Proofs.Ytgohpompgiljiaa.Log

namespace Go.Proofs.Ytgohpompgiljiaa.Log
open Go.RowKit
open Go.Proofs.Ytgohpompgiljiaa.Sl (Sl Step re)
open Go.Proofs.Ytgohpompgiljiaa.Disk (D Rep grew now)
open Go.Proofs.Ytgohpompgiljiaa.Frame (L L_ext L_app scn ScnP)
open Go.Proofs.Ytgohpompgiljiaa.Slot (Tx)
attribute [local go_sem ↓] Go.wp_at_zero Go.wp_at_succ

/-! ### a disk whose blocks are 1's -/
def Dk (T : Nat → Nat) (w : World) (pd : Nat) (d : D) : Prop := Rep w pd d (fun b => T b = 1)
section
variable {T T' : Nat → Nat} {w w' : World} {pd : Nat} {d d' : D} {I : Nat → Prop}
theorem Dk.later (h : Dk T w pd d) (t : Below w.heap.size w w') : Dk T w' pd d := Rep.later h t
theorem Dk.step (h : Dk T w pd d) (s : Step I T T' w w') (h1 : ¬ I 1) (hT : ∀ b, T b ≠ 0 → b < w.heap.size) (h0 : ¬ I 0) : Dk T' w' pd d := by
  have h2 := Rep.far h s.touch.size (fun b hb => s.touch.block b (Rep.below h b hb) (by show ¬ I (T b); rw [show T b = 1 from hb]; exact h1))
  exact h2.mono (fun b hb => (s.old b (Rep.below h b hb)).trans hb) (fun b hb => s.lt hT h0 b (by show T' b ≠ 0; rw [show T' b = 1 from hb]; decide))
/-- behind a call of the disk -/
theorem Dk.call (hT : ∀ b, T b ≠ 0 → b < w.heap.size) (r : Rep w' pd d' (grew (fun b => T b = 1) w w')) (t : Disk.Touch (fun b => T b = 1) w w') : Dk (re T w w' 1) w' pd d' ∧ Step (· = 1) T (re T w w' 1) w w' := by
  have s : Step (· = 1) T (re T w w' 1) w w' := Step.re rfl t
  exact ⟨r.mono (fun b hb => (Sl.re_grew hT (by omega) b).2 hb) (fun b hb => s.lt hT (by omega) b (by show re T w w' 1 b ≠ 0; rw [show re T w w' 1 b = 1 from hb]; decide)), s⟩
theorem Dk.call0 (hT : ∀ b, T b ≠ 0 → b < w.heap.size) (r : Rep w' pd d' (fun b => T b = 1)) (t : Disk.Touch (fun b => T b = 1) w w') : Dk T w' pd d' ∧ Step (· = 1) T T w w' :=
  ⟨r, ⟨t, fun _ _ => rfl, fun b hb => .inl (by
    by_cases e : T b = 0
    · exact e
    · have := hT b e; omega)⟩⟩
end

/-! ### take -/
theorem tx_at {W0 w : World} {v : Value} {l : List ByteArray} (h : Tx W0 w v l) {j : Nat} (hj : j < l.length) : ∃ g c, v = .slice (some ⟨g, 0, none⟩) l.length c ∧ W0.heap.size ≤ g ∧ g < w.heap.size ∧ w.cell? ⟨g, j, none⟩ = some (.string l[j]) := by
  rcases h.form with ⟨_, h2⟩ | ⟨g, cap, cur, h1, h2, h3, h4, h5⟩
  · rw [h2] at hj; simp at hj
  · refine ⟨g, cap, h1, h2, (Array.getElem?_eq_some_iff.1 h3).1, ?_⟩
    rw [cell_of_row w g j cur _ _ h3]
    have e : (cur.toList.take l.length)[j]? = (l.map Value.string)[j]? := by rw [h5]
    rw [List.getElem?_take, if_pos hj, List.getElem?_map, List.getElem?_eq_getElem hj] at e
    rw [← Array.getElem?_toList, e]
    rfl
/-- behind the first j frames -/
def tkR (r : R) (l : List ByteArray) (j : Nat) : R := { r with recs := pos r.first (l.take j), next := r.first + sz (l.take j) }
theorem tkR_step {r : R} {l : List ByteArray} {j : Nat} (hj : j < l.length) (h1 : 1 ≤ l[j].size) (h2 : l[j].size ≤ 4096) : addR (tkR r l j) l[j] = tkR r l (j + 1) := by
  have e : l.take (j + 1) = l.take j ++ [l[j]] := List.take_succ_eq_append_getElem hj
  unfold addR tkR
  simp only [e, pos_app, sz_app, lg_of h1 h2, sz, pos]
  congr 1
  omega
def TkP (i q : Nat) (T : Nat → Nat) (r : R) (l : List ByteArray) (tv : Value) (w : World) (e : Ending) (w' : World) : Prop :=
  e = .returned (.tuple #[]) ∧ ∃ T' rv', Lr i T' w' q { r with recs := pos r.first l, next := r.first + sz l, forced := r.first + sz l } rv' tv ∧ Step (I3 i) T T' w w'
set_option maxRecDepth 100000 in
set_option maxHeartbeats 4000000 in
theorem take_any {i q : Nat} {T : Nat → Nat} {w : World} {r : R} {rv tv : Value} (h : Lr i T w q r rv tv) (hr : r.recs = []) (hn : r.next = r.first) (hf : r.first ≤ 900000000000) (s : ByteArray) (hs : s.size ≤ 100000) :
    Calls Try.prog 45 #[.pointer (some ⟨q, 0, none⟩), .string s] w (TkP i q T r (scn s r.first).1 tv w) := by
  have hip := h.ipos
  have h0 : ¬ I3 i 0 := by unfold I3; omega
  have KS := Lib.hid (Frame.fscan_any s r.first w (by omega) hs)
  have FA := Lib.hid (scn_facts s.size s r.first (Nat.le_refl _) (by omega))
  have FU := Lib.hid (Frame.scn_used s r.first)
  have LL := Lib.hid h
  have PO := Lib.hid (show ∀ T' rv' W, Lr i T' W q { r with recs := pos r.first (scn s r.first).1, next := r.first + sz (scn s r.first).1, forced := r.first + sz (scn s r.first).1 } rv' tv → Step (I3 i) T T' w W → TkP i q T r (scn s r.first).1 tv w (.returned (.tuple #[])) W from fun T' rv' W h1 h2 => ⟨rfl, T', rv', h1, h2⟩)
  obtain ⟨_, _, _, _, c4, _⟩ := h.cells
  obtain ⟨res, hres⟩ : ∃ res, res = scn s r.first := ⟨_, rfl⟩
  unfold ScnP at KS
  rw [← hres] at KS FA PO FU ⊢
  clear hres h
  obtain ⟨X, u, er⟩ := res
  have FA1 := Lib.hid FA.out.1
  have FA2 := Lib.hid FA.out.2.1
  have HFU := Lib.hid (show sz X ≤ s.size from by have := FU.out; have := FA2.out; simp only at *; omega)
  clear FA FU
  change Hid (∀ x ∈ X, 1 ≤ x.size ∧ x.size ≤ 4096) at FA1
  show Calls _ _ _ _ (TkP i q T r X tv w)
  have HR := Lib.hid hr
  have HN := Lib.hid hn
  have HF := Lib.hid hf
  clear hr hn
  go_enter Try.func45, Try.ntmps45
  go_wp2_with fail
  refine KS.out.mono ?_
  rintro e ws ⟨v, rfl, tx, bs1⟩
  change Tx w ws v X at tx
  have TX := Lib.hid tx
  have BS := Lib.hid bs1
  have LS := Lib.hid (LL.out.later bs1)
  obtain ⟨va, vc, rfl⟩ := tx.shape
  obtain ⟨m, hm⟩ : ∃ m, m = X.length := ⟨_, rfl⟩
  have HM := Lib.hid hm
  have hml : m ≤ 100000 := by have := sz_ge X; have := HFU.out; omega
  rw [← hm]
  clear tx bs1 KS c4 hm
  go_wp2_with fail
  go_loopw [21] (fun iv wr => ∃ (j : Nat) (T1 : Nat → Nat) (rv1 : Value), j ≤ m ∧ iv = .int .i64 (j : Int) ∧ Lr i T1 wr q (tkR r X j) rv1 tv ∧ Step (I3 i) T T1 ws wr) (fun iv _ => m - (intOf iv).toNat)
  case atStart =>
    refine ⟨0, T, rv, by omega, by go_num, ?_, Step.refl _ LS.out.lt⟩
    have e : tkR r X 0 = r := by
      have h1 := HR.out
      have h2 := HN.out
      unfold tkR
      simp only [List.take_zero, pos, sz, Nat.add_zero]
      rw [← h1]
      conv => lhs; arg 6; rw [← h2]
    rw [e]
    exact LS.out
  case round =>
    obtain ⟨j, T1, rv1, hj, rfl, hL, hS⟩ := hrel
    have L1 := Lib.hid hL
    have S1 := Lib.hid hS
    clear hL hS
    by_cases hlt : j < m
    · have hjx : j < X.length := by rw [← HM.out]; exact hlt
      have TX2 : Tx w ws (.slice va X.length vc) X := by rw [← HM.out]; have := TX.out; rw [← HM.out] at this; exact this
      obtain ⟨gx, cx, hv, hg1, hg2, hc⟩ := tx_at TX2 hjx
      simp only [Value.slice.injEq, true_and] at hv
      obtain ⟨rfl, rfl⟩ := hv
      have hcr : wr.cell? ⟨gx, j, none⟩ = some (.string X[j]) := by
        have hb := S1.out.touch.block gx hg2 (by
          show ¬ I3 i (T gx)
          have : T gx = 0 := by
            by_cases e : T gx = 0
            · exact e
            · have := LL.out.lt gx e; omega
          rw [this]; exact h0)
        exact (World.cell?_of_block (a := ⟨gx, j, none⟩) hb).trans hc
      have hxs := FA1.out X[j] (List.getElem_mem hjx)
      have ST := Lib.hid (tkR_step (r := r) hjx hxs.1 hxs.2)
      have hsz2 := sz_take_le X j
      have KA := Lib.hid (add_any L1.out (by show r.first + sz (X.take j) ≤ _; have := HFU.out; have := HF.out; omega) (by show (pos r.first (X.take j)).length ≤ _; rw [pos_len, List.length_take]; omega) X[j] (by omega))
      have KA2 := Lib.hid (show Calls Try.prog 29 #[.pointer (some ⟨q, 0, none⟩), .string X[j]] wr fun e w' => e = .returned (.tuple #[]) ∧ ∃ T' rv', Lr i T' w' q (tkR r X (j + 1)) rv' tv ∧ Step (fun k => k = i ∨ k = i + 1) T1 T' wr w' from by rw [← ST.out]; exact KA.out)
      clear KA ST
      obtain ⟨x, hx⟩ : ∃ x, x = X[j] := ⟨_, rfl⟩
      rw [← hx] at KA2 hcr
      clear hx hc hxs
      go_wp2_with fail
      refine KA2.out.mono ?_
      rintro e w4 ⟨rfl, T4, rv4, l4, s4⟩
      have L4 := Lib.hid l4
      have S4 := Lib.hid (S1.out.trans (s4.mono (fun k hk => by unfold I3; omega)) h0)
      clear l4 s4
      go_wp2_with fail
      go_roundw
      case rel => exact ⟨j + 1, T4, rv4, by omega, by go_num, L4.out, S4.out⟩
      case measure => simp [intOf]; omega
    · obtain rfl : j = m := by omega
      have e : tkR r X j = { r with recs := pos r.first X, next := r.first + sz X } := by
        unfold tkR
        rw [HM.out, List.take_length]
      rw [e] at L1
      clear e
      obtain ⟨_, _, _, _, _, d5, d6, _⟩ := L1.out.cells
      change wr.cell? ⟨q, 5, none⟩ = some (.int .u64 ((r.first + sz X : Nat) : Int)) at d5
      have f6 := L1.out.free 6
      have N1 := Lib.hid (L1.out.set (r' := { r with recs := pos r.first X, next := r.first + sz X, forced := r.first + sz X }) 6 (.int .u64 ((r.first + sz X : Nat) : Int)) rfl rfl rfl)
      have P := Lib.hid (PO.out T1 rv1 _ N1.out.1 (((Step.below (I3 i) LL.out.lt BS.out).trans S1.out h0).trans (N1.out.2.mono (fun k hk => .inl hk)) h0))
      obtain ⟨z, hz⟩ : ∃ z, z = r.first + sz X := ⟨_, rfl⟩
      rw [← hz] at d5 P
      clear N1 hz
      go_wp2_with fail
      go_end0
      exact P.out

end Go.Proofs.Ytgohpompgiljiaa.Log
