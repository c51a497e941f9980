/-
  Laws: a write's 129 cells, a sector's 128.
-/
import Derived.Great.BuildSlice
import Derived.Lib.AppendStr
import Derived.Test.YtgohpompgiljiaaZ15
namespace Go.Proofs.Ytgohpompgiljiaa.Disk
open Go.RowKit

/-- cells are laid over others -/
theorem lay_cells : ∀ (l : List Value) (n : Nat) (z : Array Value), n + l.length ≤ z.size → ((l.zipIdx n).foldl (fun (cs : Array Value) (x : Value × Nat) => cs.setIfInBounds (0 + x.2) x.1) z).toList = z.toList.take n ++ l ++ z.toList.drop (n + l.length)
  | [], n, z, _ => by simp
  | v :: r, n, z, h => by
    rw [List.zipIdx_cons, List.foldl_cons, lay_cells r (n + 1) _ (by simp at h ⊢; omega)]
    have hn : n < z.toList.length := by simp at h ⊢; omega
    have e1 : n + 1 + r.length = n + (v :: r).length := by simp; omega
    rw [Array.toList_setIfInBounds, e1, Nat.zero_add, List.drop_set_of_lt (by simp)]
    have e2 : (z.toList.set n v).take (n + 1) = z.toList.take n ++ [v] := by
      rw [List.take_succ_eq_append_getElem (by simpa using hn), List.take_set_of_le (Nat.le_refl _)]
      simp
    rw [e2]
    simp
theorem fill_one (m : Nat) (cs : List Value) (h : cs.length = m) (z : Array Value) (hz : z.size = m) : Instr.fill (fun i => some (i * m, m)) z [(0, .agg cs.toArray)] = some cs.toArray := by
  have h1 := lay_cells cs 0 z (by omega)
  have h2 : ((cs.toArray.zipIdx.foldl (fun (cs : Array Value) (x : Value × Nat) => cs.setIfInBounds (0 + x.2) x.1) z)) = cs.toArray := by
    apply Array.toList_inj.1
    rw [← Array.foldl_toList]
    have e : cs.toArray.zipIdx.toList = cs.zipIdx 0 := by simp
    rw [e, h1]
    simp; omega
  simp only [Instr.fill, Value.cells, Nat.zero_mul]
  rw [if_neg (by simp [h, hz])]
  exact congrArg some h2

set_option maxRecDepth 100000 in
theorem infoW : (Try.prog.info? 94).map (fun i => (i.zero, i.size, i.bytes)) = some (some (.agg (.int .i64 0 :: List.replicate 128 (.int .u8 0)).toArray), 129, 136) := by kernel_rfl
set_option maxRecDepth 100000 in
theorem infoS : (Try.prog.info? 92).map (fun i => (i.zero, i.size, i.bytes)) = some (some (.agg (List.replicate 128 (.int .u8 0)).toArray), 128, 128) := by kernel_rfl
set_option maxRecDepth 100000 in
theorem sizeW : (Try.prog.info? 94).map (·.size) = some 129 := by kernel_rfl

set_option maxRecDepth 100000 in
/-- a slice of one write -/
theorem build_one (w : World) (cs : List Value) (h : cs.length = 129) : (Instr.buildSlice 81 1 #[(0, .agg cs.toArray)]).run Try.prog w = .ok (.slice (some ⟨w.heap.size, 0, none⟩) 1 1) (w.alloc (.cells cs.toArray 94)) := by
  obtain ⟨i, hi, hz, hs, _⟩ := info_parts infoW
  refine run_buildSlice w 81 94 1 _ _ i _ Try.underlying81 hi hz (by rw [hs]; decide) (by rw [hs]; decide) ?_
  rw [hs]
  exact fill_one 129 cs h _ (by simp)

/-- the cells of 'write{k: k}', and of a new one -/
def blankW (k : Int) : List Value := .int .i64 k :: List.replicate 128 (.int .u8 0)
theorem blankW_len (k : Int) : (blankW k).length = 129 := by simp [blankW]
theorem blankW_one (k : Int) : ∀ v ∈ blankW k, v.oneCell' = true := by
  intro v hv
  simp only [blankW, List.mem_cons, List.mem_replicate] at hv
  rcases hv with rfl | ⟨_, rfl⟩ <;> rfl
set_option maxRecDepth 100000 in
theorem built_write (k : Int) : Try.prog.built 94 [(0, .int .i64 k)] = some (blankW k).toArray := by kernel_rfl
set_option maxRecDepth 100000 in
theorem build_write (w : World) (k : Int) : (Instr.build 94 #[(0, .int .i64 k)]).run Try.prog w = .ok (.agg (blankW k).toArray) w :=
  run_build w _ _ _ (by kernel_rfl)
set_option maxRecDepth 100000 in
theorem alloc_write (w : World) : (Instr.alloc 94 true (.tuple #[])).run Try.prog w = .ok (.pointer (some ⟨w.heap.size, 0, none⟩)) (w.alloc (.cells (blankW 0).toArray 94 (0, 0))) := by
  have z : (zeroValue 94).run Try.prog w = .ok (.agg (blankW 0).toArray) w := by kernel_rfl
  simp only [Instr.alloc, Sem.run_bind, z]
  rfl

theorem world_ext {a b : World} (h1 : a.heap = b.heap) (h2 : a.tape = b.tape) (h3 : a.drawn = b.drawn) (h4 : a.os = b.os) (h5 : a.output = b.output) : a = b := by
  cases a; cases b; simp_all
theorem setCells_drawn (g : Nat) : ∀ (vs : List Value) (o : Nat) (w : World), (w.setCells g o vs).drawn = w.drawn ∧ (w.setCells g o vs).tape = w.tape
  | [], _, _ => ⟨rfl, rfl⟩
  | v :: r, o, w => by rw [World.setCells]; exact ⟨(setCells_drawn g r (o + 1) _).1, (setCells_drawn g r (o + 1) _).2⟩
theorem setCells_size (g : Nat) : ∀ (vs : List Value) (o : Nat) (w : World), (w.setCells g o vs).heap.size = w.heap.size
  | [], _, _ => rfl
  | v :: r, o, w => by rw [World.setCells, setCells_size g r (o + 1) _]; simp
/-- a part of a new block is written: as if it had been laid so -/
theorem alloc_setCells (w : World) (c : Array Value) (e : TypeId) (o : Nat) (vs : List Value) (h : o + vs.length ≤ c.size) :
    (w.alloc (.cells c e)).setCells w.heap.size o vs = w.alloc (.cells (c.toList.take o ++ vs ++ c.toList.drop (o + vs.length)).toArray e) := by
  refine world_ext ?_ (setCells_drawn _ _ _ _).2 (setCells_drawn _ _ _ _).1 (World.os_setCells _ _ _ _) (World.output_setCells _ _ _ _)
  apply Array.ext_getElem?
  intro i
  by_cases hi : i = w.heap.size
  · subst hi
    obtain ⟨cur', k1, _, k3⟩ := heap_setCells w.heap.size e vs o (w.alloc (.cells c e)) c (heap_alloc_new w _) h
    rw [k1, heap_alloc_new w _, ← k3]
  · by_cases hlt : i < w.heap.size
    · rw [World.heap_setCells_other _ _ _ _ (by simp; omega) hi, Below.heap_alloc w _ i hlt, Below.heap_alloc w _ i hlt]
    · rw [Array.getElem?_eq_none (by rw [setCells_size]; simp; omega), Array.getElem?_eq_none (by simp; omega)]

set_option maxRecDepth 100000 in
/-- 'copy' out of a text into a part of a block -/
theorem run_copy_str (w : World) (ty : TypeId) (g o : Nat) (s : ByteArray) (hs : s.size = 128) (ht : w.there g o 128) :
    (Builtin.copy_ #[55, 9] ty #[.slice (some ⟨g, o, none⟩) 128 128, .string s]).run Try.prog w = .ok (.int .i64 128) (w.setCells g o (Lib.byteCells s.data.toList)) := by
  have hl : s.data.toList.length = 128 := by rw [← hs]; rfl
  have hst := run_storeCells_cells (P := Try.prog) g o (Lib.byteCells s.data.toList) 0 w (fun j hj => (ht j (by rw [byteCells_len, hl] at hj; exact hj)).1) (fun j hj => (ht j (by rw [byteCells_len, hl] at hj; exact hj)).2) (byteCells_one _)
  rw [Nat.add_zero] at hst
  have hsz : (sizeOf 5).run Try.prog w = .ok 1 w := by kernel_rfl
  have hf : (Builtin.firstCells 1 128 (.string s)).run Try.prog w = .ok (Lib.byteCells s.data.toList).toArray w := by
    have e : (s.extract 0 128).data.map (fun b => Value.int .u8 (b.toNat : Int)) = (Lib.byteCells s.data.toList).toArray := by
      have e2 : s.extract 0 128 = s := by
        rw [← hs]; exact ByteArray.extract_zero_size
      rw [e2]
      apply Array.toList_inj.1
      simp [Lib.byteCells]
    simp only [Builtin.firstCells, Sem.run_pure, e]
  have hm : Nat.min s.size 128 = 128 := by rw [hs]; rfl
  rw [← hm] at hf
  simp only [Builtin.copy_, Sem.run_bind, run_underlying Try.underlying55, Result.andThen_ok, Builtin.lenOf, Sem.run_pure, hsz, List.getElem?_toArray, List.getElem?_cons_zero, List.getElem?_cons_succ, hf, hst]
  simp [byteCells_len, hl, goInt]
  omega

set_option maxRecDepth 100000 in
theorem wpList_copy_str {w : World} {ops : Array Oper} {rest : List Oper} {o : Oper} {a : Act} {Q : Exit → Act → World → Prop} (hgd : o.guard = none) (d s : Operand)
    (ho : o.op = .call { callee := .builtin .copy, args := #[d, s], argTypes := #[55, 9] }) (g off : Nat) (x : ByteArray) (hd : a.eval d = .slice (some ⟨g, off, none⟩) 128 128) (hs : a.eval s = .string x)
    (hsz : x.size = 128) (ht : w.there g off 128) (h : wpList Try.prog ops Q rest (a.put o.dst (.int .i64 128)) (w.setCells g off (Lib.byteCells x.data.toList))) : wpList Try.prog ops Q (o :: rest) a w := by
  refine wpList_plain hgd fun K hK => ?_
  unfold Oper.wp execOp
  simp only [ho, resolve, invoke, builtin, Sem.run_bind, Sem.run_pure, Result.andThen_ok, List.map_toArray, List.map_cons, List.map_nil, hd, hs, run_copy_str w o.type g off x hsz ht]
  exact hK _ _ h

end Go.Proofs.Ytgohpompgiljiaa.Disk
