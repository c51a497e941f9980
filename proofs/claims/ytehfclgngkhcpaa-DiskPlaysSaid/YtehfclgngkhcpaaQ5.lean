/- The document's disk: New. -/
import Derived.Test.YtehfclgngkhcpaaQ4
namespace Go.Proofs.Ytehfclgngkhcpaa.Disk
open Go.RowKit
attribute [local go_sem ↓] Go.wp_at_zero Go.wp_at_succ

theorem ownsRow_base {w : World} {B : Nat} {e : TypeId} {size : Nat} {v : Value} {n : Nat} {xs : List Value} (h : w.ownsRow B e size v n xs) : w.ownsRow 0 e size v n xs := by
  refine ⟨h.1, ?_⟩
  rcases h.2 with h2 | ⟨g, cap, cur, h2, _, rest⟩
  · exact .inl h2
  · exact .inr ⟨g, cap, cur, h2, Nat.zero_le _, rest⟩
set_option maxRecDepth 100000 in
theorem infoStr : (Try.prog.info? 9).map (fun i => (i.zero, i.size, i.bytes)) = some (some (.string ⟨#[]⟩), 1, 16) := by kernel_rfl

set_option maxRecDepth 100000 in
theorem qnew_arg (n : Int) (w : World) (h : n < 1 ∨ 16384 < n) : Calls Try.prog 12 #[.int .i64 n] w fun e w' => e = .returned (.pointer none) ∧ w = w' := by
  rcases h with h | h
  · have e1 : decide (n < 1) = true := decide_eq_true h
    clear h
    go_enter Try.func12, Try.ntmps12
    go_wp2
    go_ret
    exact ⟨rfl, rfl⟩
  · have e1 : decide (n < 1) = false := decide_eq_false (by omega)
    have e2 : decide (16384 < n) = true := decide_eq_true h
    clear h
    go_enter Try.func12, Try.ntmps12
    go_wp2
    go_ret
    exact ⟨rfl, rfl⟩

theorem own_block {w : World} {B : Nat} {e : TypeId} {size : Nat} {v : Value} {n : Nat} {xs : List Value} (h : w.ownsRow B e size v n xs) {b : Nat} (hb : v.ownBlock = some b) : ∃ cur, w.heap[b]? = some (.cells cur e (0, 0)) := by
  rcases h.2 with ⟨rfl, _⟩ | ⟨g, cap, cur, rfl, _, hg, _⟩
  · simp [Value.ownBlock] at hb
  · simp [Value.ownBlock] at hb
    subst hb
    exact ⟨cur, hg⟩
def NewS (w : World) (p k : Nat) (v : Value) (wr : World) : Prop :=
  wr.heap[p]? = some (.cells #[v, .slice none 0 0, .int .i64 (-1)] 37 (0, 0)) ∧ wr.ownsRow w.heap.size 9 1 v k (strs (List.replicate k (fullL 0))) ∧ Below w.heap.size w wr
theorem NewS.ne {w wr : World} {p k : Nat} {v : Value} (h : NewS w p k v wr) : some p ≠ v.ownBlock := fun e => by
  obtain ⟨cur, hc⟩ := own_block h.2.1 e.symm
  have := h.1.symm.trans hc
  simp at this
theorem NewS.step {w wr w5 : World} {p k g cap : Nat} {v : Value} (h : NewS w p k v wr) (hpw : w.heap.size ≤ p) (o : Obj) (hg : (wr.alloc o).grownBy w5 v.ownBlock)
    (hown : w5.ownsRow w.heap.size 9 1 (.slice (some ⟨g, 0, none⟩) (k + 1) cap) (k + 1) (strs (List.replicate k (fullL 0)) ++ [strV (fullL 0)])) (hat : v.ownBlock = some g ∨ g = wr.heap.size + 1) :
    NewS w p (k + 1) (.slice (some ⟨g, 0, none⟩) (k + 1) cap) (w5.setCell ⟨p, 0, none⟩ (.slice (some ⟨g, 0, none⟩) (k + 1) cap)) := by
  have hp : p < wr.heap.size := (Array.getElem?_eq_some_iff.1 h.1).1
  have hgp : g ≠ p := by
    rcases hat with e | e
    · intro e2; subst e2; exact h.ne e.symm
    · omega
  have hbs := h.2.2.size
  refine ⟨?_, ?_, ?_⟩
  · have h1 : w5.heap[p]? = some (.cells #[v, .slice none 0 0, .int .i64 (-1)] 37 (0, 0)) := (hg.block p (by simp; omega) h.ne).trans ((Below.heap_alloc wr o p hp).trans h.1)
    rw [heap_setCell_same w5 p 0 _ _ (.slice (some ⟨g, 0, none⟩) (k + 1) cap) h1]
    rfl
  · have e1 : strs (List.replicate (k + 1) (fullL 0)) = strs (List.replicate k (fullL 0)) ++ [strV (fullL 0)] := by rw [List.replicate_succ']; simp [strs]
    rw [e1]
    exact ownsRow_far hown fun b hb => by
      simp [Value.ownBlock] at hb; subst hb
      exact heap_setCell_other _ _ _ _ hgp
  · exact (((h.2.2.alloc hbs o).grown hg (by simp; omega) (fun b hb => (h.2.1.lt b hb).1))).setCell (p := ⟨p, 0, none⟩) hpw _
theorem NewS.rep {w wr : World} {p n : Nat} {v : Value} (h : NewS w p n v wr) (hpw : w.heap.size ≤ p) (h1 : 1 ≤ n) (h2 : n ≤ 16384) : QRep wr p (D.new n) (Fresh w wr) := by
  obtain ⟨a, b, c⟩ := h
  obtain ⟨g, cap, rfl, _, _⟩ := b.form (by omega)
  have hl : (D.new n).sure.length = n := by simp [D.new]
  refine ⟨D.ok_new h1 h2, ⟨g, cap, .slice none 0 0, ⟨?_, ?_, World.ownsRow_nil _ _ _ _⟩, ⟨hpw, (Array.getElem?_eq_some_iff.1 a).1⟩, b.lt g rfl, by simp [Value.ownBlock]⟩, fun b hb => hb.2⟩
  · rw [a, hl]; rfl
  · rw [hl]; exact ownsRow_base b

set_option maxRecDepth 100000 in
set_option maxHeartbeats 2000000 in
theorem qnew_any (n : Nat) (w : World) (h1 : 1 ≤ n) (h2 : n ≤ 16384) : Calls Try.prog 12 #[.int .i64 n] w fun e w' => e = .returned (.pointer (some ⟨w.heap.size, 0, none⟩)) ∧
    (QRep w' w.heap.size (D.new n) (Fresh w w') ∧ Below w.heap.size w w') := by
  have e1 : decide ((n : Int) < 1) = false := decide_eq_false (by omega)
  have e2 : decide (16384 < (n : Int)) = false := decide_eq_false (by omega)
  obtain ⟨i, hi, hz, hs, hby⟩ := info_parts info5
  obtain ⟨W1, hW1⟩ : ∃ W1, W1 = w.alloc (.cells #[.slice none 0 0, .slice none 0 0, .int .i64 (-1)] 37) := ⟨_, rfl⟩
  have hmk := run_make (P := Try.prog) W1 69 5 i _ Try.underlying69 hi hz .i64 .i64 128 128 (by omega) (by omega) (by rw [hby]; omega) (by omega)
  have hzc : (madeCells (Value.int .u8 0).cells (Int.toNat 128 * i.size)) = fillC ((0 : UInt8).toNat : Int) 0 := by rw [hs]; exact fillC_zero _
  rw [hzc] at hmk
  have e128 : Int.toNat 128 = 128 := rfl
  rw [e128] at hmk
  have hf0 : (fillC ((0 : UInt8).toNat : Int) 0).toList = Lib.byteCells (fullL 0) := by rw [← fillC_full]; rfl
  have hcv := conv_any (W1.alloc (.cells (fillC ((0 : UInt8).toNat : Int) 0) 5)) W1.heap.size 128 128 (fullL 0) (fullL_len 0) (fun j v hv => by
    rw [cell_of_row _ _ _ _ _ _ (heap_alloc_new W1 _), ← hv, Nat.zero_add, ← Array.getElem?_toList, hf0])
  have P0 := Lib.hid (show NewS w w.heap.size 0 (.slice none 0 0) (W1.alloc (.cells (fillC ((0 : UInt8).toNat : Int) 0) 5)) from by
    subst hW1
    exact ⟨heap_alloc2_old w _ _, World.ownsRow_nil _ _ _ _, ((Below.refl _ _).alloc (Nat.le_refl _) _).alloc (by simp) _⟩)
  generalize fillC ((0 : UInt8).toNat : Int) 0 = zc at *
  obtain ⟨i0, hi0, hz0, hz1, hz2⟩ := info_parts infoStr
  clear hzc hs hby hz hi e128 hf0 i
  go_enter Try.func12, Try.ntmps12
  go_wp2_with (rw [← hW1])
  rw [hmk]
  simp only [Result.andThen]
  rw [Oper.upon_value]
  clear hmk hW1
  obtain ⟨z, hzz⟩ : ∃ z : ByteArray, strV (fullL 0) = .string z := ⟨_, rfl⟩
  have hzz2 : (⟨(fullL 0).toArray⟩ : ByteArray) = z := by simpa [strV] using hzz
  rw [hzz2] at hcv
  have HZ := Lib.hid hzz
  clear hzz hzz2
  generalize W1.alloc (.cells zc 5) = W2 at *
  go_wp2_with fail
  clear hcv
  go_loopw [5] (fun i wr => ∃ (k : Nat) (v : Value), k ≤ n ∧ i = .int .i64 k ∧ NewS w w.heap.size k v wr) (fun i _ => n - (intOf i).toNat)
  case atStart => exact ⟨0, _, by omega, by go_num, P0.out⟩
  case round =>
    obtain ⟨k, v, hk, rfl, hp⟩ := hrel
    clear P0
    by_cases hlt : k < n
    · have b1 : (k : Int) < (n : Int) := by omega
      have c0 : wr.cell? ⟨w.heap.size, 0, none⟩ = some v := by rw [cell_of_row _ _ _ _ _ _ hp.1]; rfl
      have fr := frozen_of_row wr w.heap.size 0 _ _ hp.1
      have hpl : w.heap.size < wr.heap.size := (Array.getElem?_eq_some_iff.1 hp.1).1
      have hn1 := World.news_of_block (cs := #[.string z]) (heap_alloc_new wr (.cells #[.string z] 9))
      have HP := Lib.hid hp
      have hbs := hp.2.2.size
      have np := hp.ne
      clear hp
      go_wp2_with (at_builtin; refine wpList_append_lies _ rfl _ _ _ rfl w.heap.size 9 i0 _ 1 16 Try.underlying34 hi0 hz0 hz1 hz2 rfl (by omega) _ k (strs (List.replicate k (fullL 0))) (by rfl) (HP.out.2.1.alloc _) ⟨wr.heap.size, 0, none⟩ 1 1 [.string z] (by rfl) rfl hn1 (by intro u hu; simp at hu; subst hu; rfl) (by omega) (by unfold maxLen; omega) (by omega) (by simp; omega) _ rfl ?_)
      intro g cap w5 hown hgrow hat hlt2
      rw [← HZ.out] at hown
      have ST := Lib.hid (HP.out.step (Nat.le_refl _) _ hgrow hown hat)
      have kx : w5.cell? ⟨w.heap.size, 0, none⟩ = some v := hgrow.cell (by rw [World.cell?_alloc_lt _ _ _ (by exact hpl)]; exact c0) np
      have ky : w5.frozen? ⟨w.heap.size, 0, none⟩ = false := by
        rw [hgrow.frozen_far ⟨w.heap.size, 0, none⟩ (by show w.heap.size < (wr.alloc _).heap.size; simp; omega) np, World.frozen?_of_block (Below.heap_alloc wr _ w.heap.size (by exact hpl))]
        exact fr
      clear hown hgrow hat hlt2 hn1 c0 fr HP
      go_wp2_with fail
      go_roundw
      case rel => exact ⟨k + 1, _, by omega, by go_num, ST.out⟩
      case measure => simp [intOf]; omega
    · obtain rfl : k = n := by omega
      have HE := Lib.hid (show QRep wr w.heap.size (D.new k) (Fresh w wr) ∧ Below w.heap.size w wr from ⟨hp.rep (Nat.le_refl _) h1 h2, hp.2.2⟩)
      clear hp
      go_wp2_with fail
      go_ret
      exact ⟨rfl, HE.out⟩

end Go.Proofs.Ytehfclgngkhcpaa.Disk
