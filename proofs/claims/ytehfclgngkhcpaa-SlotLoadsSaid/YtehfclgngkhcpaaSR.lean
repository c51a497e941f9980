/- An area in memory: its blocks; what copies, clears and slices do to it. -/
import Derived.Test.YtehfclgngkhcpaaTO
import Derived.Test.YtehfclgngkhcpaaSM
import Derived.Test.YtehfclgngkhcpaaWD
namespace Go.Proofs.Ytehfclgngkhcpaa.Slot
open Go.RowKit

/-- block g has these bytes at its beginning, which may be written -/
def Row (w : World) (g : Nat) (b : List UInt8) : Prop := ∃ cur m, w.heap[g]? = some (.cells cur 5 m) ∧ cur.toList.take b.length = Lib.byteCells b ∧ b.length ≤ cur.size ∧ (m.2 = 0 ∨ b.length ≤ m.1)

theorem Row.cell {w : World} {g : Nat} {b : List UInt8} (h : Row w g b) {j : Nat} (hj : j < b.length) : w.cell? ⟨g, j, none⟩ = some (.int .u8 ((b.getD j 0).toNat : Int)) := by
  obtain ⟨cur, m, h1, h2, h3, _⟩ := h
  rw [cell_of_row w g j cur _ m h1]
  have e : (cur.toList.take b.length)[j]? = (Lib.byteCells b)[j]? := by rw [h2]
  rw [List.getElem?_take, if_pos hj] at e
  rw [← Array.getElem?_toList, e]
  simp [Lib.byteCells, List.getD_eq_getElem?_getD, List.getElem?_eq_getElem hj]
theorem Row.free {w : World} {g : Nat} {b : List UInt8} (h : Row w g b) {j : Nat} (hj : j < b.length) : w.frozen? ⟨g, j, none⟩ = false := by
  obtain ⟨cur, m, h1, _, _, h4⟩ := h
  simp only [World.frozen?, h1]
  rw [Bool.and_eq_false_iff]
  rcases h4 with h4 | h4
  · right; simp; omega
  · left; simp; omega
theorem Row.far {w w' : World} {g : Nat} {b : List UInt8} (h : Row w g b) (hk : w'.heap[g]? = w.heap[g]?) : Row w' g b := by
  obtain ⟨cur, m, h1, rest⟩ := h
  exact ⟨cur, m, hk.trans h1, rest⟩
theorem Row.lt {w : World} {g : Nat} {b : List UInt8} (h : Row w g b) : g < w.heap.size := by
  obtain ⟨cur, m, h1, _⟩ := h
  exact (Array.getElem?_eq_some_iff.1 h1).1

theorem byteCells_len (t : List UInt8) : (Lib.byteCells t).length = t.length := Lib.byteCells_length t
theorem heap_put (g : Nat) (e : TypeId) (m : Nat × Nat) : ∀ (vs : List Value) (o : Nat) (w : World) (cur : Array Value), w.heap[g]? = some (.cells cur e m) → o + vs.length ≤ cur.size →
    ∃ cur' : Array Value, (w.setCells g o vs).heap[g]? = some (.cells cur' e m) ∧ cur'.size = cur.size ∧ cur'.toList = putL cur.toList o vs
  | [], o, w, cur, h, _ => ⟨cur, h, rfl, by simp [putL]⟩
  | v :: r, o, w, cur, h, hs => by
    have h1 : (w.setCell ⟨g, o, none⟩ v).heap[g]? = some (.cells (cur.setIfInBounds o v) e m) := by
      rw [setCell_eq_setRow w g o cur e m v h]
      exact setRow_heap w g cur _ e m h
    obtain ⟨cur', k1, k2, k3⟩ := heap_put g e m r (o + 1) (w.setCell ⟨g, o, none⟩ v) _ h1 (by simp at hs ⊢; omega)
    refine ⟨cur', k1, by rw [k2]; simp, ?_⟩
    have ho : o < cur.toList.length := by simp at hs ⊢; omega
    have e1 : o + 1 + r.length = o + (v :: r).length := by simp; omega
    rw [k3]
    unfold putL
    rw [Array.toList_setIfInBounds, e1, List.drop_set_of_lt (by simp)]
    have e2 : (cur.toList.set o v).take (o + 1) = cur.toList.take o ++ [v] := by
      rw [List.take_succ_eq_append_getElem (by simpa using ho), List.take_set_of_le (Nat.le_refl _)]
      simp
    rw [e2]
    simp
theorem Row.put {w : World} {g : Nat} {b : List UInt8} (h : Row w g b) {k : Nat} {t : List UInt8} (hk : k + t.length ≤ b.length) : Row (w.setCells g k (Lib.byteCells t)) g (putL b k t) := by
  obtain ⟨cur, m, h1, h2, h3, h4⟩ := h
  obtain ⟨cur', k1, k2, k3⟩ := heap_put g _ m (Lib.byteCells t) k w cur h1 (by rw [byteCells_len]; omega)
  refine ⟨cur', m, k1, ?_, by rw [putL_len hk]; omega, by rw [putL_len hk]; exact h4⟩
  rw [k3, putL_len hk]
  show _ = (putL b k t).map _
  rw [putL_map]
  have e2 : b.map (fun b : UInt8 => Value.int .u8 (b.toNat : Int)) = cur.toList.take b.length := h2.symm
  rw [e2]
  show (putL cur.toList k (Lib.byteCells t)).take b.length = putL (cur.toList.take b.length) k (Lib.byteCells t)
  unfold putL
  rw [byteCells_len]
  have hc : cur.toList.length = cur.size := by simp
  rw [List.take_append, List.take_append, List.take_take, List.take_take, List.drop_take]
  have a1 : (cur.toList.take k).length = k := by rw [List.length_take]; omega
  rw [List.length_append, a1, byteCells_len, Nat.min_comm]
  congr 1
  congr 1
  rw [List.take_of_length_le (by rw [byteCells_len]; omega)]

structure Ar (w : World) (p g c : Nat) (b : List UInt8) : Prop where
  head : w.heap[p]? = some (.cells #[.slice (some ⟨g, 0, none⟩) b.length c] 100 (0, 0))
  row : Row w g b
  cap : b.length ≤ c
  lo : 16 ≤ b.length
  hi : b.length ≤ 4096
/-- the area's own blocks -/
def both (p g b : Nat) : Prop := b = p ∨ b = g

section
variable {w : World} {p g c : Nat} {b : List UInt8}
theorem Ar.cell0 (h : Ar w p g c b) : w.cell? ⟨p, 0, none⟩ = some (.slice (some ⟨g, 0, none⟩) b.length c) := by rw [cell_of_row w p 0 _ _ _ h.head]; rfl
theorem Ar.ne (h : Ar w p g c b) : p ≠ g := by
  rintro rfl
  obtain ⟨cur, m, h1, _⟩ := h.row
  have := h.head.symm.trans h1
  simp at this
theorem Ar.below (h : Ar w p g c b) : ∀ x, both p g x → x < w.heap.size := by
  rintro x (rfl | rfl)
  · exact (Array.getElem?_eq_some_iff.1 h.head).1
  · exact h.row.lt
theorem Ar.far {w' : World} (h : Ar w p g c b) (hk : ∀ x, both p g x → w'.heap[x]? = w.heap[x]?) : Ar w' p g c b :=
  ⟨(hk p (.inl rfl)).trans h.head, h.row.far (hk g (.inr rfl)), h.cap, h.lo, h.hi⟩
theorem Ar.touch {w' : World} {G : Nat → Prop} (h : Ar w p g c b) (t : Touch G w w') (hd : ∀ x, both p g x → ¬ G x) : Ar w' p g c b :=
  h.far fun x hx => t.block x (h.below x hx) (hd x hx)
theorem Ar.later {w' : World} (h : Ar w p g c b) (t : Below w.heap.size w w') : Ar w' p g c b := h.far fun x hx => t.block x (h.below x hx)
theorem Ar.drew (h : Ar w p g c b) : Ar w.drew p g c b := h.later ((Below.refl _ _).drew)
theorem Ar.setNew (h : Ar w p g c b) {x : Addr} (hx : ¬ both p g x.block) (u : Value) : Ar (w.setCell x u) p g c b :=
  h.far fun y hy => heap_setCell_other _ _ _ _ fun e => hx (e ▸ hy)
/-- other bytes from a place on -/
theorem Ar.put (h : Ar w p g c b) {k : Nat} {t : List UInt8} (hk : k + t.length ≤ b.length) : Ar (w.setCells g k (Lib.byteCells t)) p g c (putL b k t) ∧ Touch (both p g) w (w.setCells g k (Lib.byteCells t)) := by
  have ht := Touch.setCells (F := both p g) (.inr rfl) (Lib.byteCells t) k (Touch.refl _ w)
  have hl := putL_len hk
  refine ⟨⟨?_, h.row.put hk, by rw [hl]; exact h.cap, by rw [hl]; exact h.lo, by rw [hl]; exact h.hi⟩, ht⟩
  rw [hl, World.heap_setCells_other w g _ _ (h.below p (.inl rfl)) h.ne]
  exact h.head
end

set_option maxRecDepth 100000 in
theorem sz_byte : (Try.prog.info? 5).map (·.size) = some 1 := by kernel_rfl
set_option maxRecDepth 100000 in
theorem elem_bytes : Try.prog.underlying 69 = some (.slice (Try.prog.elem 69)) := by kernel_rfl
set_option maxRecDepth 100000 in
theorem size_byte (w : World) : (sizeOf (Try.prog.elem 69)).run Try.prog w = .ok 1 w := by kernel_rfl
/-- where a slice from k on begins -/
def base (g k c : Nat) : Option Addr := if c = k then some ⟨g, 0, none⟩ else some ⟨g, k, none⟩
theorem base_lt {g k c : Nat} (h : k < c) : base g k c = some ⟨g, k, none⟩ := if_neg (by omega)
theorem base_any (g k c : Nat) : ∃ o, base g k c = some ⟨g, o, none⟩ := by
  unfold base; split
  · exact ⟨0, rfl⟩
  · exact ⟨k, rfl⟩
set_option maxRecDepth 100000 in
theorem slice_from (W : World) {g n c k : Nat} (hk : k ≤ n) : (Instr.sliceAt 69 (.slice (some ⟨g, 0, none⟩) n c) (some (.int .i64 (k : Int))) none none).run Try.prog W = .ok (.slice (base g k c) (n - k) (c - k)) W := by
  rw [run_sliceAt_slice (P := Try.prog) W 69 _ _ _ _ elem_bytes, run_slice_l (P := Try.prog) W 69 _ _ _ elem_bytes .i64 (k : Int) (by omega) (by omega), size_byte]
  simp only [Result.andThen, sliced, Int.toNat_natCast, base, Option.map_some, Nat.mul_one]
  congr 2
  split <;> simp [Addr.add] <;> omega
set_option maxRecDepth 100000 in
theorem slice_part (W : World) {g n c k m : Nat} (hk : k ≤ m) (hm : m ≤ c) : (Instr.sliceAt 69 (.slice (some ⟨g, 0, none⟩) n c) (some (.int .i64 (k : Int))) (some (.int .i64 (m : Int))) none).run Try.prog W = .ok (.slice (base g k c) (m - k) (c - k)) W := by
  rw [run_sliceAt_slice (P := Try.prog) W 69 _ _ _ _ elem_bytes, run_slice_lh (P := Try.prog) W 69 _ _ _ elem_bytes .i64 .i64 (k : Int) (m : Int) (by omega) (by omega) (by omega), size_byte]
  simp only [Result.andThen, sliced, Int.toNat_natCast, base, Option.map_some, Nat.mul_one]
  congr 2
  split <;> simp [Addr.add] <;> omega

section
variable {w : World} {g c : Nat} {b : List UInt8}
/-- a text as bytes -/
def strB (l : List UInt8) : ByteArray := ⟨l.toArray⟩
set_option maxRecDepth 100000 in
theorem Row.str (h : Row w g b) {k m : Nat} (hk : k ≤ m) (hm : m ≤ b.length) (hc : b.length ≤ c) : (convert 69 9 (.slice (base g k c) (m - k) (c - k))).run Try.prog w = .ok (.string (strB ((b.drop k).take (m - k)))) w := by
  have hl : ((b.drop k).take (m - k)).length = m - k := by simp; omega
  obtain ⟨o, ho⟩ := base_any g k c
  have hx := run_convert_bytes_back (P := Try.prog) w 69 9 5 ⟨g, o, none⟩ (c - k) ((b.drop k).take (m - k)) Try.underlying69 Try.underlying5 Try.underlying9 (by
    intro j hj
    rw [hl] at hj
    rw [base_lt (by omega)] at ho
    have e2 : o = k := by simp at ho; exact ho.symm
    subst e2
    have e : (⟨g, o, none⟩ : Addr).add j = ⟨g, o + j, none⟩ := by simp [Addr.add]
    rw [e, h.cell (by omega)]
    simp [List.getD_eq_getElem?_getD, List.getElem?_eq_getElem (show o + j < b.length by omega)])
  rw [hl] at hx
  rw [ho]
  exact hx
set_option maxRecDepth 100000 in
theorem Row.copy (h : Row w g b) (ty : TypeId) {k : Nat} {x : ByteArray} (hk : k + x.size ≤ b.length) (hc : b.length ≤ c) : (Builtin.copy_ #[69, 9] ty #[.slice (base g k c) (b.length - k) (c - k), .string x]).run Try.prog w = .ok (goInt x.size) (w.setCells g k (Lib.byteCells x.data.toList)) := by
  by_cases h0 : x.size = 0
  · rw [Lib.run_copy_empty_string w 69 9 ty 5 _ _ _ x Try.underlying69 (by kernel_rfl) h0, h0]
    have e : x.data.toList = [] := by
      have : x.data.toList.length = 0 := by rw [← h0]; rfl
      exact List.eq_nil_of_length_eq_zero this
    rw [e]
    rfl
  · rw [base_lt (by omega)]
    have hl : (Lib.byteCells x.data.toList).length = x.size := by rw [byteCells_len]; rfl
    have hst := run_storeCells_cells (P := Try.prog) g k (Lib.byteCells x.data.toList) 0 w (fun j hj => by rw [hl] at hj; rw [Nat.add_zero, h.cell (by omega)]; rfl) (fun j hj => by rw [hl] at hj; rw [Nat.add_zero]; exact h.free (by omega)) (Lib.byteCells_one _)
    have hmin : Nat.min x.size (b.length - k) = x.size := Nat.min_eq_left (by omega)
    have htk : List.take x.size (List.map (fun b : UInt8 => Value.int IntKind.u8 (b.toNat : Int)) x.data.toList) = Lib.byteCells x.data.toList := by
      rw [List.take_of_length_le (by rw [List.length_map]; exact Nat.le_refl _)]
      rfl
    simp only [Nat.add_zero] at hst
    have hs := sz_byte
    cases hq : Try.prog.info? 5 with
    | none => simp [hq] at hs
    | some i =>
      simp [Builtin.copy_, run_underlying Try.underlying69, Builtin.lenOf, Builtin.firstCells, sizeOf, typeInfo, hq, hmin]
      rw [htk, hst]
      simp [Result.andThen]
set_option maxRecDepth 100000 in
/-- bytes are moved within the area -/
theorem Row.move (h : Row w g b) (ty : TypeId) {k lo hi : Nat} (h1 : lo ≤ hi) (h2 : hi ≤ b.length) (hk : k + (hi - lo) ≤ b.length) (hc : b.length ≤ c) : (Builtin.copy_ #[69, 69] ty #[.slice (base g k c) (b.length - k) (c - k), .slice (base g lo c) (hi - lo) (c - lo)]).run Try.prog w = .ok (goInt ((hi - lo : Nat) : Int)) (w.setCells g k (Lib.byteCells ((b.drop lo).take (hi - lo)))) := by
  have hl : ((b.drop lo).take (hi - lo)).length = hi - lo := by simp; omega
  by_cases h0 : hi - lo = 0
  · obtain ⟨o1, e1⟩ := base_any g k c
    obtain ⟨o2, e2⟩ := base_any g lo c
    rw [run_copy_none w 69 69 ty 5 _ _ _ _ _ _ Try.underlying69 sz_byte (by rw [h0]; exact Nat.min_eq_left (Nat.zero_le _)), h0, List.take_zero]
    rfl
  · rw [base_lt (by omega), base_lt (show lo < c by omega)]
    have hb : (Lib.byteCells ((b.drop lo).take (hi - lo))).length = hi - lo := by rw [byteCells_len, hl]
    have := run_copy_cells w 69 69 ty 5 g k (b.length - k) (c - k) ⟨g, lo, none⟩ (hi - lo) (c - lo) (Lib.byteCells ((b.drop lo).take (hi - lo))) Try.underlying69 sz_byte
      (by rw [hb]; exact (Nat.min_eq_left (by omega)).symm)
      (by
        intro j v hv
        have hj : j < hi - lo := by have := (List.getElem?_eq_some_iff.1 hv).1; omega
        have e : (⟨g, lo, none⟩ : Addr).add j = ⟨g, lo + j, none⟩ := by simp [Addr.add]
        rw [e, h.cell (by omega), ← hv]
        simp [Lib.byteCells, hj, List.getD_eq_getElem?_getD, List.getElem?_eq_getElem (show lo + j < b.length by omega)])
      (fun j hj => by rw [h.cell (by omega)]; rfl) (fun j hj => h.free (by omega)) (Lib.byteCells_one _)
    rw [hb] at this
    exact this
set_option maxRecDepth 100000 in
theorem Row.clear (h : Row w g b) (ty : TypeId) {k m : Nat} (hk : k ≤ m) (hm : m ≤ b.length) (hc : b.length ≤ c) : (Builtin.clear_ #[69] ty #[.slice (base g k c) (m - k) (c - k)]).run Try.prog w = .ok (.tuple #[]) (w.setCells g k (Lib.byteCells (List.replicate (m - k) 0))) := by
  by_cases h0 : m - k = 0
  · obtain ⟨o1, e1⟩ := base_any g k c
    rw [h0, e1]
    simp [Builtin.clear_, run_underlying Try.underlying69, Lib.byteCells, World.setCells]
  · rw [base_lt (by omega)]
    have := Lib.run_clear_slice (P := Try.prog) w 69 5 ty (.int .u8 0) Try.underlying69 (fun w => by kernel_rfl) rfl rfl g k (m - k) (c - k) (by omega) (fun j hj => by rw [h.cell (by omega)]; rfl) (fun j hj => h.free (by omega))
    rw [this]
    congr 2
    simp [Lib.byteCells]
end

section
variable {w : World} {ops : Array Oper} {rest : List Oper} {o : Oper} {a : Act} {Q : Exit → Act → World → Prop} {g c : Nat} {b : List UInt8}
set_option maxRecDepth 100000 in
theorem wpList_copy_text (h : Row w g b) (hgd : o.guard = none) (d s : Operand) (ho : o.op = .call { callee := .builtin .copy, args := #[d, s], argTypes := #[69, 9] }) (k : Nat) (x : ByteArray) (hk : k + x.size ≤ b.length) (hc : b.length ≤ c)
    (hd : a.eval d = .slice (base g k c) (b.length - k) (c - k)) (hs : a.eval s = .string x) (hn : wpList Try.prog ops Q rest (a.put o.dst (goInt x.size)) (w.setCells g k (Lib.byteCells x.data.toList))) : wpList Try.prog ops Q (o :: rest) a w := by
  refine wpList_plain hgd fun K hK => ?_
  unfold Oper.wp execOp
  simp only [ho, resolve, invoke, builtin, Sem.run_bind, Sem.run_pure, Result.andThen_ok, List.map_toArray, List.map_cons, List.map_nil, hd, hs, h.copy o.type hk hc]
  exact hK _ _ hn
set_option maxRecDepth 100000 in
theorem wpList_copy_move (h : Row w g b) (hgd : o.guard = none) (d s : Operand) (ho : o.op = .call { callee := .builtin .copy, args := #[d, s], argTypes := #[69, 69] }) (k lo hi : Nat) (h1 : lo ≤ hi) (h2 : hi ≤ b.length) (hk : k + (hi - lo) ≤ b.length) (hc : b.length ≤ c)
    (hd : a.eval d = .slice (base g k c) (b.length - k) (c - k)) (hs : a.eval s = .slice (base g lo c) (hi - lo) (c - lo)) (hn : wpList Try.prog ops Q rest (a.put o.dst (goInt ((hi - lo : Nat) : Int))) (w.setCells g k (Lib.byteCells ((b.drop lo).take (hi - lo))))) : wpList Try.prog ops Q (o :: rest) a w := by
  refine wpList_plain hgd fun K hK => ?_
  unfold Oper.wp execOp
  simp only [ho, resolve, invoke, builtin, Sem.run_bind, Sem.run_pure, Result.andThen_ok, List.map_toArray, List.map_cons, List.map_nil, hd, hs, h.move o.type h1 h2 hk hc]
  exact hK _ _ hn
set_option maxRecDepth 100000 in
theorem wpList_clear (h : Row w g b) (hgd : o.guard = none) (d : Operand) (ho : o.op = .call { callee := .builtin .clear, args := #[d], argTypes := #[69] }) (k m : Nat) (hk : k ≤ m) (hm : m ≤ b.length) (hc : b.length ≤ c)
    (hd : a.eval d = .slice (base g k c) (m - k) (c - k)) (hn : wpList Try.prog ops Q rest (a.put o.dst (.tuple #[])) (w.setCells g k (Lib.byteCells (List.replicate (m - k) 0)))) : wpList Try.prog ops Q (o :: rest) a w := by
  refine wpList_plain hgd fun K hK => ?_
  unfold Oper.wp execOp
  simp only [ho, resolve, invoke, builtin, Sem.run_bind, Sem.run_pure, Result.andThen_ok, List.map_toArray, List.map_cons, List.map_nil, hd, h.clear o.type hk hm hc]
  exact hK _ _ hn
end

end Go.Proofs.Ytehfclgngkhcpaa.Slot
