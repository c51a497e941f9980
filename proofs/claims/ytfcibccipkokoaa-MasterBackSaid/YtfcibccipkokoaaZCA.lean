/- Walks: what was stored is loaded (the answers that the document fixes). -/
import Derived.Test.YtfcibccipkokoaaZC9
import Derived.Test.YtfcibccipkokoaaDO
namespace Go.Proofs.Ytfcibccipkokoaa.Mas
open Go.RowKit
open Go.Proofs.Ytfcibccipkokoaa.Disk (D Rep Own now burnt fullL)
attribute [local go_sem ↓] Go.wp_at_zero Go.wp_at_succ

theorem isM_first {s : ByteArray} (h : isM s = true) : s.data.toList[0]? = some 1 := by
  obtain ⟨h1, h2⟩ := isM_enc h
  have e : s.data.toList = secL (rdM s) := by rw [← enc_yes h2, ← encB_list, h1]
  rw [e]
  rfl
theorem not_full : isM ⟨(fullL 0).toArray⟩ = false := by
  cases h : isM ⟨(fullL 0).toArray⟩ with
  | false => rfl
  | true =>
    have h1 := isM_first h
    have h2 : (fullL 0)[0]? = some 0 := rfl
    have h3 : (fullL 0)[0]? = some 1 := h1
    rw [h2] at h3
    cases h3
theorem stands_no {s : ByteArray} (h : isM s = false) (k : Nat) : stands s k = false := by unfold stands; rw [h]; rfl
theorem load_none {a b : ByteArray} (ha : isM a = false) (hb : isM b = false) : loadM a b = Ms.zero ∧ loadE a b = 120 := by
  have e : loadO a b = none := by
    unfold loadO
    rw [stands_no ha, stands_no hb]
    rfl
  unfold loadM loadE
  rw [e]
  exact ⟨rfl, rfl⟩
theorem load_odd {a b : ByteArray} {m : Ms} (ha : isM a = false) (hw : m.wf) (hm : okM m = true) (hc : m.count % 2 = 1) (hb : b = encB m) : loadM a b = m ∧ loadE a b = 0 := by
  have h1 := isM_sec hw hm
  have h2 := dec_enc hw hm
  have h3 : rdM b = m := by rw [hb, ← (dec_yes h1).1, h2.1]
  rw [← hb] at h1
  have e : loadO a b = some m := by
    unfold loadO
    rw [stands_no ha]
    have : stands b 1 = true := by unfold stands; rw [h1, h3, hc]; rfl
    rw [this, h3]
    rfl
  unfold loadM loadE
  rw [e]
  exact ⟨rfl, rfl⟩

/-! ### on a disk, beside boxes of the call's own -/
theorem own_start {w w' : World} {p : Nat} {d : D} (r : Rep w' p d (Disk.Fresh w w') ∧ Below w.heap.size w w') : Own w w' (fun _ => False) [(p, d)] := by
  have := ((Own.start w).add (E := fun _ => False) r).1
  exact this
theorem own_load {w wi : World} {E : Nat → Prop} {p : Nat} {d : D} (S : Own w wi E [(p, d)]) (hf : d.fuse ≠ 0) (n : Nat) (hr : n + 1 < d.sure.length) {m : Ms} {x : Int} (h : loadM (nowB d n) (nowB d (n + 1)) = m ∧ loadE (nowB d n) (nowB d (n + 1)) = x) :
    Calls Try.prog 22 #[.pointer (some ⟨p, 0, none⟩), .int .i64 (n : Int)] wi fun e w' => e = .returned (.tuple #[msV m, .int .i64 x]) ∧ Below wi.heap.size wi w' := by
  obtain ⟨F, r, _⟩ := S.call (i := 0) rfl
  exact (load_any r hf n hr).mono fun e w' ⟨h1, h2⟩ => ⟨by rw [h1, h.1, h.2], h2⟩
theorem own_store {w wi : World} {E : Nat → Prop} {p : Nat} {d d' : D} (S : Own w wi E [(p, d)]) (m : Ms) (n : Nat) (hw : m.wf) (hm : okM m = true) (hk : n + m.count % 2 < d.sure.length) (hl : d.loose.length ≤ 1000000) {x : Int} (h : storeD d (n + m.count % 2) (encL m) = d' ∧ storeE d = x) :
    Calls Try.prog 24 #[.pointer (some ⟨p, 0, none⟩), .int .i64 (n : Int), msV m] wi fun e w' => e = .returned (.int .i64 x) ∧ (Own w w' E [(p, d')] ∧ ∀ b, E b → w'.heap[b]? = wi.heap[b]?) := by
  obtain ⟨F, r, _, k⟩ := S.call (i := 0) rfl
  exact (store_any r m n hw hm hk hl).mono fun e w' ⟨h1, h2⟩ => ⟨by rw [h1, h.2], by rw [← h.1]; exact k w' _ h2⟩
theorem own_bad {w wi : World} {E : Nat → Prop} {p : Nat} {d : D} (S : Own w wi E [(p, d)]) (m : Ms) (n : Int) (hw : m.wf) (hm : okM m = false) :
    Calls Try.prog 24 #[.pointer (some ⟨p, 0, none⟩), .int .i64 n, msV m] wi fun e w' => e = .returned (.int .i64 2) ∧ Below wi.heap.size wi w' := by
  obtain ⟨F, r, _⟩ := S.call (i := 0) rfl
  exact store_bad r m n hw hm
/-- a box of a master, the call's own -/
def At (w : World) (g : Nat) (m : Ms) : Prop := w.heap[g]? = some (.cells (msC m) 40 (0, 0))
theorem At.later {w w' : World} {g : Nat} {m : Ms} (h : At w g m) (b : Below w.heap.size w w') : At w' g m := (b.block _ (Array.getElem?_eq_some_iff.1 h).1).trans h
theorem At.five {w : World} {g : Nat} {m : Ms} (h : At w g m) : w.cell? ⟨g, 0, none⟩ = some (.int .u64 (m.count : Int)) ∧ w.cell? ⟨g, 1, none⟩ = some (.int .u64 (m.life : Int)) ∧ w.cell? ⟨g, 2, none⟩ = some (.int .u64 (m.check : Int)) ∧ w.cell? ⟨g, 3, none⟩ = some (.int .u64 (m.first : Int)) ∧ w.cell? ⟨g, 4, none⟩ = some (.bool m.clean) := by
  refine ⟨?_, ?_, ?_, ?_, ?_⟩ <;> (rw [cell_of_row _ _ _ _ _ _ h]; rfl)
theorem At.new (w : World) (m : Ms) : At (w.alloc (.cells (msC m) 40)) w.heap.size m := heap_alloc_new _ _

def oneM : Ms := ⟨1, 2, 0, 110, false⟩
theorem oneM_wf : oneM.wf := ⟨by decide, by decide, by decide, by decide⟩
theorem oneM_ok : okM oneM = true := by decide
def oneD : D := ((D.new 4).write 2 (encL oneM)).sync

set_option maxRecDepth 100000 in
theorem now_oneD1 : nowB oneD 1 = ⟨(fullL 0).toArray⟩ := rfl
theorem now_oneD2 : nowB oneD 2 = encB oneM := rfl

set_option maxRecDepth 100000 in
set_option maxHeartbeats 4000000 in
theorem works_any (w : World) : Calls Try.prog 14 #[] w fun e w' => e = .returned (.bool true) ∧ Below w.heap.size w w' := by
  have K0 := Lib.hid (show Calls Try.prog 19 #[.int .i64 4] w _ from Disk.new_any 4 w (by omega) (by omega))
  have KE := Lib.hid (fun W => show Calls Try.prog 15 #[msV oneM] W fun e w' => e = .returned (.tuple #[.string (encB oneM), .int .i64 0]) ∧ Below W.heap.size W w' from encode_any oneM W oneM_wf)
  have KN := Lib.hid (fun W => store_nil oneM 1 W)
  have hs := encB_size oneM_ok
  generalize encB oneM = sec at *
  unfold msV msC oneM at KE KN
  go_enter Try.func14, Try.ntmps14
  go_wp2_with fail
  refine K0.out.mono ?_
  rintro e w1 ⟨rfl, h1, b1⟩
  have S1 := Lib.hid (own_start ⟨h1, b1⟩)
  obtain ⟨p, hp⟩ : ∃ p, p = w.heap.size + 1 := ⟨_, rfl⟩
  rw [← hp] at S1 ⊢
  clear K0 h1 b1 hp
  have L1 := Lib.hid (show Calls Try.prog 22 #[.pointer (some ⟨p, 0, none⟩), .int .i64 1] w1 _ from own_load S1.out (by decide) 1 (by decide) (load_none not_full not_full))
  go_wp2_with fail
  refine L1.out.mono ?_
  rintro e w2 ⟨rfl, b2⟩
  have S2 := Lib.hid ((S1.out.later b2).later (below_new w2 (.cells (msC Ms.zero) 40)))
  clear S1 b2 L1
  have hZ : msC Ms.zero = #[.int .u64 0, .int .u64 0, .int .u64 0, .int .u64 0, .bool false] := rfl
  have hO : msC oneM = #[.int .u64 1, .int .u64 2, .int .u64 0, .int .u64 110, .bool false] := rfl
  unfold msV
  rw [hZ] at S2 ⊢
  clear hZ
  go_upto_region 5 with fail
  generalize World.alloc w2 _ = W3 at *
  have A3 := Lib.hid (At.new W3 oneM)
  have S3 := Lib.hid (S2.out.laterE (E' := fun x => x = W3.heap.size) (below_new W3 (.cells (msC oneM) 40)) (fun x hx => .inr (by simp; omega)))
  rw [hO] at A3 S3
  clear S2
  go_upto_region 6 with fail
  generalize W3.heap.size = g at *
  generalize World.alloc W3 _ = W4 at *
  obtain ⟨a0, a1, a2, a3, a4⟩ := A3.out.five
  have ST : Hid (Calls Try.prog 24 #[.pointer (some ⟨p, 0, none⟩), .int .i64 1, .agg #[.int .u64 1, .int .u64 2, .int .u64 0, .int .u64 110, .bool false]] W4 fun e w' => e = .returned (.int .i64 0) ∧ (Own w w' (fun x => x = g) [(p, oneD)] ∧ ∀ b, b = g → w'.heap[b]? = W4.heap[b]?)) := Lib.hid (own_store S3.out oneM 1 oneM_wf oneM_ok (by decide) (by decide) (d' := oneD) (x := 0) ⟨rfl, rfl⟩)
  go_wp2_with fail
  refine ST.out.mono ?_
  rintro e w5 ⟨rfl, s5, k5⟩
  have A5 := Lib.hid (show At w5 g oneM from (k5 g rfl).trans A3.out)
  have S5 := Lib.hid s5
  clear s5 k5 ST A3 S3 a0 a1 a2 a3 a4
  have L5 := Lib.hid (show Calls Try.prog 22 #[.pointer (some ⟨p, 0, none⟩), .int .i64 1] w5 _ from own_load S5.out (by decide) 1 (by decide) (load_odd (m := oneM) (by rw [now_oneD1]; exact not_full) oneM_wf oneM_ok (by decide) now_oneD2))
  go_wp2_with fail
  refine L5.out.mono ?_
  rintro e w6 ⟨rfl, b6⟩
  have A7 := Lib.hid ((A5.out.later b6).later (below_new w6 (.cells (msC oneM) 40)))
  have X7 := Lib.hid (At.new w6 oneM)
  have S7 := Lib.hid ((S5.out.later b6).later (below_new w6 (.cells (msC oneM) 40)))
  clear A5 S5 L5 b6
  unfold msV
  rw [hO] at A7 X7 S7 ⊢
  go_upto_region 8 with fail
  generalize w6.heap.size = g7 at *
  generalize World.alloc w6 _ = W7 at *
  obtain ⟨a0, a1, a2, a3, a4⟩ := A7.out.five
  go_wp2_with fail
  refine (KE.out _).mono ?_
  rintro e w8 ⟨rfl, b8⟩
  have A8 := Lib.hid (A7.out.later b8)
  have X8 := Lib.hid (X7.out.later b8)
  have S8 := Lib.hid (S7.out.later b8)
  clear A7 X7 S7 b8 a0 a1 a2 a3 a4 KE
  obtain ⟨a0, a1, a2, a3, a4⟩ := A8.out.five
  obtain ⟨x0, x1, x2, x3, x4⟩ := X8.out.five
  unfold oneM at a0 a1 a2 a3 a4 x0 x1 x2 x3 x4
  go_wp2_with fail
  refine (KN.out _).mono ?_
  rintro e w9 ⟨rfl, b9⟩
  have S9 := Lib.hid (S8.out.later b9)
  clear S8 b9 KN A8 X8 a0 a1 a2 a3 a4 x0 x1 x2 x3 x4
  have SB := Lib.hid (show Calls Try.prog 24 #[.pointer (some ⟨p, 0, none⟩), .int .i64 1, .agg #[.int .u64 0, .int .u64 0, .int .u64 0, .int .u64 0, .bool false]] w9 _ from own_bad S9.out Ms.zero 1 Ms.zero_wf (by decide))
  go_wp2_with fail
  refine SB.out.mono ?_
  rintro e w10 ⟨rfl, b10⟩
  have S10 := Lib.hid (S9.out.later b10).below
  clear S9 b10 SB
  go_wp2_with fail
  go_ret
  exact ⟨rfl, S10.out⟩

end Go.Proofs.Ytfcibccipkokoaa.Mas
