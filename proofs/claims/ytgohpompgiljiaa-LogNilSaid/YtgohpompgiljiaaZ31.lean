/-
  A buffer of bytes that a call has made: appended to byte by byte, made out of a text, and back.
-/
import Derived.WalkKit
import Derived.WalkSpells
import Derived.WalkLawsBesides
import Derived.Lib.Hide
import Derived.Lib.BufSteps
import Derived.Lib.BufferWrite
import Derived.Laws.IdiomStrings
import Derived.Laws.IdiomCopy
import Derived.ArgAppend
namespace Go.Proofs.Ytgohpompgiljiaa.Sum
open Go.RowKit

/-- v is a slice whose bytes are xs, in a block from B on; its spare places may be written; below B nothing has turned since W0 -/
def Buf (e : TypeId) (B : Nat) (v : Value) (xs : List UInt8) (W0 w : World) : Prop :=
  (∃ g cap cur fz, v = .slice (some ⟨g, 0, none⟩) xs.length cap ∧ B ≤ g ∧ w.heap[g]? = some (.cells cur e fz) ∧ (fz.2 ≤ xs.length ∨ cap ≤ fz.1) ∧ xs.length ≤ cap ∧ cap ≤ maxLen ∧ cur.size = cap ∧ cur.toList.take xs.length = Lib.byteCells xs) ∧
    Below B W0 w ∧ B ≤ w.heap.size

theorem Buf.below {e : TypeId} {B : Nat} {v : Value} {xs : List UInt8} {W0 w : World} (h : Buf e B v xs W0 w) : Below B W0 w := h.2.1
theorem Buf.later {e : TypeId} {B : Nat} {v : Value} {xs : List UInt8} {W0 w w' : World} (h : Buf e B v xs W0 w) (hb : Below w.heap.size w w') : Buf e B v xs W0 w' := by
  obtain ⟨⟨g, cap, cur, fz, hv, hBg, hg, rest⟩, h2, h3⟩ := h
  have hlt : g < w.heap.size := (Array.getElem?_eq_some_iff.1 hg).1
  exact ⟨⟨g, cap, cur, fz, hv, hBg, (hb.block g hlt).trans hg, rest⟩, h2.trans (hb.mono h3), Nat.le_trans h3 hb.size⟩
theorem Buf.alloc {e : TypeId} {B : Nat} {v : Value} {xs : List UInt8} {W0 w : World} (h : Buf e B v xs W0 w) (o : Obj) : Buf e B v xs W0 (w.alloc o) :=
  h.later ((Below.refl _ _).alloc (Nat.le_refl _) o)
theorem Buf.drew {e : TypeId} {B : Nat} {v : Value} {xs : List UInt8} {W0 w : World} (h : Buf e B v xs W0 w) : Buf e B v xs W0 w.drew :=
  h.later ((Below.refl _ _).drew)

theorem Buf.ofOwn {e : TypeId} {B : Nat} {v : Value} {xs : List UInt8} {W0 w : World} (h : Lib.OwnBuf B e v xs.length (Lib.byteCells xs) W0 w) (hv : v ≠ .slice none 0 0) : Buf e B v xs W0 w := by
  obtain ⟨⟨h1, h2⟩, h3, h4⟩ := h
  rcases h2 with ⟨h2, _⟩ | ⟨g, cap, cur, fz, h2, hBg, hg, hfz, hn, hcm, hcs, htk⟩
  · exact absurd h2 hv
  · refine ⟨⟨g, cap, cur, fz, h2, hBg, hg, Or.inl (by omega), hn, hcm, by omega, ?_⟩, h3, h4⟩
    rw [Nat.mul_one] at htk
    exact htk

section
variable {P : Program}

theorem Buf.out {e S T : TypeId} (hs : P.underlying T = some (.slice e)) (he : P.underlying e = some (.int .u8)) (hd : P.underlying S = some .string)
    {B : Nat} {v : Value} {xs : List UInt8} {W0 w : World} (h : Buf e B v xs W0 w) : (convert T S v).run P w = .ok (.string ⟨xs.toArray⟩) w := by
  obtain ⟨⟨g, cap, cur, fz, rfl, hBg, hg, _, hn, _, hcs, htk⟩, _⟩ := h
  refine run_convert_bytes_back (P := P) w T S e ⟨g, 0, none⟩ cap xs hs he hd ?_
  intro j hj
  have e1 : (⟨g, 0, none⟩ : Addr).add j = ⟨g, j, none⟩ := by simp [Addr.add]; try omega
  rw [e1, cell_of_row w g j cur e fz hg]
  have h1 : (cur.toList.take xs.length)[j]? = (Lib.byteCells xs)[j]? := by rw [htk]
  rw [List.getElem?_take, if_pos hj] at h1
  rw [← Array.getElem?_toList, h1]
  simp [Lib.byteCells, List.getElem?_eq_getElem hj]

theorem Buf.conv {e S T : TypeId} (hs : P.underlying S = some .string) (hd : P.underlying T = some (.slice e)) (he : P.underlying e = some (.int .u8)) (w : World) (s : ByteArray) (hl : s.size ≤ maxLen) :
    ∃ v W, (convert S T (.string s)).run P w = .ok v W ∧ Buf e w.heap.size v s.data.toList w W := by
  have hsz : s.data.toList.length = s.size := (Lib.size_eq _).symm
  have hrow : (bytesRow s (grownCap w s.size 0 e)).size = grownCap w s.size 0 e := by
    have h1 := grownCap_ge w s.size 0 e
    have h2 : s.data.size = s.size := rfl
    unfold bytesRow
    rw [Array.size_append, Array.size_map, Array.size_replicate]
    omega
  refine ⟨_, _, run_bytes_of_string w S T e s hs hd he, ⟨_, _, _, _, ?_, Nat.le_refl _, heap_alloc_new w.drew _, ?_, ?_, grownCap_le_maxLen w s.size 0 e hl, hrow, ?_⟩, ?_, ?_⟩
  · rw [hsz]
  · right; rw [hrow]; exact Nat.le_refl _
  · rw [hsz]; exact grownCap_ge w s.size 0 e
  · rw [hsz]
    unfold bytesRow
    rw [Array.toList_append, Array.toList_map]
    have e1 : s.size = (List.map (fun b : UInt8 => Value.int .u8 (b.toNat : Int)) s.data.toList).length := by rw [List.length_map, hsz]
    rw [e1, List.take_left]
    rfl
  · exact ((Below.refl _ w).drew).alloc (Nat.le_refl _) _
  · have := (((Below.refl w.heap.size w).drew).alloc (Nat.le_refl _) (.cells (bytesRow s (grownCap w s.size 0 e)) e ((bytesRow s (grownCap w s.size 0 e)).size, (bytesRow s (grownCap w s.size 0 e)).size + 1))).size
    exact this

theorem run_buf_byte {t ty e : TypeId} {i : TypeInfo} (ht : P.underlying t = some (.slice e)) (hi : P.info? e = some i) (hz : i.zero = some (.int .u8 0)) (hsize : i.size = 1) (hby : i.bytes = 1)
    {B : Nat} {v : Value} {xs : List UInt8} {W0 w0 : World} (b : UInt8) (hb : Buf e B v xs W0 w0) (hlen : xs.length + 1 ≤ 140737488355328) :
    ∃ v' w', (Builtin.append_ #[t, t] ty #[v, .slice (some ⟨w0.heap.size, 0, none⟩) 1 1]).run P (w0.alloc (.cells #[.int .u8 (b.toNat : Int)] e)) = .ok v' w' ∧ Buf e B v' (xs ++ [b]) W0 w' := by
  obtain ⟨⟨g, cap, cur, fz, rfl, hBg, hg, hfr, hn, hcm, hcs, htk⟩, hbel, hB⟩ := hb
  have hlt : g < w0.heap.size := (Array.getElem?_eq_some_iff.1 hg).1
  have hnew : (w0.alloc (.cells #[.int .u8 (b.toNat : Int)] e)).heap[w0.heap.size]? = some (.cells #[.int .u8 (b.toNat : Int)] e) := heap_alloc_new w0 _
  have hold : (w0.alloc (.cells #[.int .u8 (b.toNat : Int)] e)).heap[g]? = some (.cells cur e fz) := (Below.heap_alloc w0 _ g hlt).trans hg
  have hbel' := hbel.alloc hB (.cells #[.int .u8 (b.toNat : Int)] e)
  have hsz' : (w0.alloc (.cells #[.int .u8 (b.toNat : Int)] e)).heap.size = w0.heap.size + 1 := by show (w0.heap.push _).size = _; simp
  have hnews : ∀ (j : Nat) (u : Value), ([Value.int .u8 (b.toNat : Int)] : List Value)[j]? = some u → (w0.alloc (.cells #[.int .u8 (b.toNat : Int)] e)).cell? ((⟨w0.heap.size, 0, none⟩ : Addr).add j) = some u := by
    intro j u hj
    match j, hj with
    | 0, hj => simp at hj; subst hj; simp [Addr.add]
    | (j + 1), hj => simp at hj
  generalize w0.alloc (.cells #[.int .u8 (b.toNat : Int)] e) = w at *
  by_cases hroom : xs.length + 1 ≤ cap
  · have hr := run_append_room_cells (P := P) w t ty e i ht hi g 0 xs.length cap ⟨w0.heap.size, 0, none⟩ 1 1 [.int .u8 (b.toNat : Int)] (by rw [hsize]; rfl) hnews (by intro u hu; simp at hu; subst hu; rfl) hroom
      (by
        intro j hj
        have hj0 : j = 0 := by simpa using hj
        rw [hsize, cell_of_row w g _ cur e fz hold]
        simp; omega)
      (by
        intro j hj
        have hj0 : j = 0 := by simpa using hj
        rw [hsize]
        simp only [World.frozen?, hold]
        rw [Bool.and_eq_false_iff]
        rcases hfr with h | h
        · right; simp; omega
        · left; simp; omega)
    rw [hsize] at hr
    have e1 : w.setCells g (0 + xs.length * 1) [.int .u8 (b.toNat : Int)] = w.setRow g (cur.setIfInBounds xs.length (.int .u8 (b.toNat : Int))) := by
      rw [← setCell_eq_setRow w g _ cur e fz _ hold]
      show w.setCell _ _ = _
      congr 2
      omega
    rw [e1] at hr
    refine ⟨_, _, hr, ⟨g, cap, _, fz, ?_, hBg, setRow_heap w g cur _ e fz hold, ?_, ?_, hcm, ?_, ?_⟩, ?_, ?_⟩
    · simp
    · rcases hfr with h | h
      · left; simp; omega
      · right; exact h
    · simp; exact hroom
    · simp; exact hcs
    · have hl : (xs ++ [b]).length = xs.length + 1 := by simp
      have hx : xs.length < (cur.toList.set xs.length (.int .u8 (b.toNat : Int))).length := by simp; omega
      rw [hl, Array.toList_setIfInBounds, List.take_succ_eq_append_getElem hx, List.take_set_of_le (Nat.le_refl _), htk]
      simp [Lib.byteCells]
    · rw [← setCell_eq_setRow w g _ cur e fz _ hold]
      exact hbel'.setCell hBg _
    · rw [setRow_size]; omega
  · obtain ⟨v', w', hr, ho, hgr⟩ := run_append_arg_grows (P := P) w t ty e i (.int .u8 0) 1 1 ht hi hz hsize hby rfl (by decide) ⟨g, 0, none⟩ xs.length cap (Lib.byteCells xs)
      (by rw [Lib.byteCells_length]; omega)
      (by
        intro j u hj
        have e1 : (⟨g, 0, none⟩ : Addr).add j = ⟨g, j, none⟩ := by simp [Addr.add]; try omega
        have hj' : j < xs.length := by
          have := (List.getElem?_eq_some_iff.1 hj).1
          rwa [Lib.byteCells_length] at this
        rw [e1, cell_of_row w g j cur e fz hold, ← Array.getElem?_toList, ← hj, ← htk, List.getElem?_take, if_pos hj'])
      ⟨w0.heap.size, 0, none⟩ 1 1 [.int .u8 (b.toNat : Int)] rfl hnews (by omega) (by unfold maxLen; omega) (by omega)
    obtain ⟨o1, o2⟩ := ho
    rcases o2 with ⟨_, o2⟩ | ⟨g2, cap2, cur2, o3, o4, o5, o6, o7, o8, o9⟩
    · omega
    · refine ⟨_, _, hr, ⟨g2, cap2, cur2, (0, 0), ?_, by omega, o5, Or.inl (Nat.zero_le _), ?_, o7, by omega, ?_⟩, hbel'.grown hgr (by omega) (by intro k hk; cases hk), ?_⟩
      · rw [o3]; simp
      · simpa using o6
      · rw [Nat.mul_one] at o9
        have hl : (xs ++ [b]).length = xs.length + 1 := by simp
        rw [hl, o9]
        simp [Lib.byteCells]
      · have := hgr.size; omega

theorem wpList_buf_byte {ops : Array Oper} {rest : List Oper} {o : Oper} {a : Act} {Q : Exit → Act → World → Prop} (hgd : o.guard = none) (s x : Operand) (t : TypeId)
    (ho : o.op = .call { callee := .builtin .append, args := #[s, x], argTypes := #[t, t] })
    {e : TypeId} {i : TypeInfo} (ht : P.underlying t = some (.slice e)) (hi : P.info? e = some i) (hz : i.zero = some (.int .u8 0)) (hsize : i.size = 1) (hby : i.bytes = 1)
    {B : Nat} {v : Value} {xs : List UInt8} {W0 w0 : World} (hs : a.eval s = v) (b : UInt8) (c : Int) (hc : c = (b.toNat : Int)) (hb : Buf e B v xs W0 w0)
    (hx : a.eval x = .slice (some ⟨w0.heap.size, 0, none⟩) 1 1) (hlen : xs.length + 1 ≤ 140737488355328)
    (h : ∀ v' w', Buf e B v' (xs ++ [b]) W0 w' → wpList P ops Q rest (a.put o.dst v') w') : wpList P ops Q (o :: rest) a (w0.alloc (.cells #[.int .u8 c] e)) := by
  subst hc
  refine wpList_plain hgd fun K hK => ?_
  obtain ⟨v', w', hr, h2⟩ := run_buf_byte (P := P) (ty := o.type) ht hi hz hsize hby b hb hlen
  unfold Oper.wp execOp
  simp only [ho, resolve, invoke, builtin, Sem.run_bind, Sem.run_pure, Result.andThen_ok, List.map_toArray, List.map_cons, List.map_nil, hs, hx, hr]
  exact hK _ _ (h v' w' h2)

end
end Go.Proofs.Ytgohpompgiljiaa.Sum
