/- The document's disk: how it lies, burn, keep, Fuse, Now, Read. -/
import Derived.Test.YtehfclgngkhcpaaDO
import Derived.StillTailTactics
namespace Go.Proofs.Ytehfclgngkhcpaa.Disk
open Go.RowKit
attribute [local go_sem ↓] Go.wp_at_zero Go.wp_at_succ

theorem newest_none (k : Nat) : ∀ (l : List (Nat × List UInt8)), (∀ (j : Nat) (y : Nat × List UInt8), l[j]? = some y → y.1 ≠ k) → newest l k = none
  | [], _ => rfl
  | x :: r, h => by
    have h1 := newest_none k r fun j y hy => h (j + 1) y (by simpa using hy)
    simp [newest, h1, h 0 x (by simp)]
theorem newest_is (k : Nat) : ∀ (l : List (Nat × List UInt8)) (i : Nat) (t : List UInt8), l[i]? = some (k, t) → (∀ (j : Nat) (y : Nat × List UInt8), i < j → l[j]? = some y → y.1 ≠ k) → newest l k = some i
  | [], i, t, h, _ => by simp at h
  | x :: r, 0, t, h, hj => by
    simp at h
    subst h
    have h1 := newest_none k r fun j y hy => hj (j + 1) y (by omega) (by simpa using hy)
    simp [newest, h1]
  | x :: r, i + 1, t, h, hj => by
    have h1 := newest_is k r i t (by simpa using h) fun j y hlt hy => hj (j + 1) y (by omega) (by simpa using hy)
    simp [newest, h1]

def strV (t : List UInt8) : Value := .string ⟨t.toArray⟩
def strs (ss : List (List UInt8)) : List Value := ss.map strV
def cellsQ (x : Nat × List UInt8) : List Value := [.int .i64 (x.1 : Int), strV x.2]
def flatQ (l : List (Nat × List UInt8)) : List Value := l.flatMap cellsQ
theorem strs_len (ss : List (List UInt8)) : (strs ss).length = ss.length := by simp [strs]
theorem strs_get {ss : List (List UInt8)} {k : Nat} {t : List UInt8} (h : ss[k]? = some t) : (strs ss)[k]? = some (strV t) := by simp [strs, h]
theorem strs_set (ss : List (List UInt8)) (k : Nat) (t : List UInt8) : (strs ss).set k (strV t) = strs (ss.set k t) := by simp [strs, List.map_set]
theorem flatQ_snoc (l : List (Nat × List UInt8)) (x : Nat × List UInt8) : flatQ (l ++ [x]) = flatQ l ++ cellsQ x := by simp [flatQ, List.flatMap_append]
theorem flatQ_get {l : List (Nat × List UInt8)} {k : Nat} {x : Nat × List UInt8} (h : l[k]? = some x) {j : Nat} (hj : j < 2) : (flatQ l)[k * 2 + j]? = (cellsQ x)[j]? := fm_get (m := 2) l (fun _ _ => rfl) k x h j hj

structure QLay (w : World) (p gs sc : Nat) (lv : Value) (d : D) : Prop where
  head : w.heap[p]? = some (.cells #[.slice (some ⟨gs, 0, none⟩) d.sure.length sc, lv, .int .i64 d.fuse] 37 (0, 0))
  sure : w.ownsRow 0 9 1 (.slice (some ⟨gs, 0, none⟩) d.sure.length sc) d.sure.length (strs d.sure)
  loose : w.ownsRow 0 121 2 lv d.loose.length (flatQ d.loose)
structure QRep (w : World) (p : Nat) (d : D) (F : Nat → Prop) : Prop where
  ok : d.ok
  lay : ∃ gs sc lv, QLay w p gs sc lv d ∧ F p ∧ F gs ∧ (∀ b, lv.ownBlock = some b → F b)
  below : ∀ b, F b → b < w.heap.size

section
variable {w : World} {p gs sc : Nat} {lv : Value} {d : D} {F : Nat → Prop}
theorem QLay.cell0 (h : QLay w p gs sc lv d) : w.cell? ⟨p, 0, none⟩ = some (.slice (some ⟨gs, 0, none⟩) d.sure.length sc) := by rw [cell_of_row w p 0 _ _ _ h.head]; rfl
theorem QLay.cell1 (h : QLay w p gs sc lv d) : w.cell? ⟨p, 1, none⟩ = some lv := by rw [cell_of_row w p 1 _ _ _ h.head]; rfl
theorem QLay.cell2 (h : QLay w p gs sc lv d) : w.cell? ⟨p, 2, none⟩ = some (.int .i64 d.fuse) := by rw [cell_of_row w p 2 _ _ _ h.head]; rfl
theorem QLay.free (h : QLay w p gs sc lv d) (j : Nat) : w.frozen? ⟨p, j, none⟩ = false := frozen_of_row w p j _ _ h.head
theorem QLay.ne (h : QLay w p gs sc lv d) : p ≠ gs := by
  rintro rfl
  rcases h.sure.2 with ⟨h1, _⟩ | ⟨g, cap, cur, h1, _, h2, _⟩
  · cases h1
  · simp at h1
    obtain ⟨rfl, _⟩ := h1
    have := h.head.symm.trans h2
    simp at this
theorem QLay.ne1 (h : QLay w p gs sc lv d) {b : Nat} (hb : lv.ownBlock = some b) : b ≠ p ∧ b ≠ gs := by
  rcases h.loose.2 with ⟨rfl, _⟩ | ⟨g, cap, cur, rfl, _, h2, _⟩
  · simp [Value.ownBlock] at hb
  · simp [Value.ownBlock] at hb
    subst hb
    refine ⟨?_, ?_⟩
    · rintro rfl
      have := h.head.symm.trans h2
      simp at this
    · rintro rfl
      rcases h.sure.2 with ⟨h1, _⟩ | ⟨g', cap', cur', h1, _, h3, _⟩
      · cases h1
      · simp at h1
        obtain ⟨rfl, _⟩ := h1
        have := h3.symm.trans h2
        simp at this
theorem QLay.sureAt (h : QLay w p gs sc lv d) {k : Nat} {t : List UInt8} (hk : d.sure[k]? = some t) : w.cell? ⟨gs, k, none⟩ = some (strV t) := by
  have := h.sure.cells (g := gs) rfl k _ (strs_get hk)
  rwa [Addr.add_mid, Nat.zero_add] at this
theorem QLay.form (L : QLay w p gs sc lv d) : ∃ a cap, lv = .slice a d.loose.length cap := by
  rcases L.loose.2 with ⟨h1, h2⟩ | ⟨g, cap, cur, h1, _⟩
  · exact ⟨none, 0, by rw [h1, h2]⟩
  · exact ⟨_, _, h1⟩
theorem QLay.looseAt {g cap : Nat} (h : QLay w p gs sc (.slice (some ⟨g, 0, none⟩) d.loose.length cap) d) {k : Nat} {x : Nat × List UInt8} (hk : d.loose[k]? = some x) :
    w.cell? ⟨g, k * 2, none⟩ = some (.int .i64 (x.1 : Int)) ∧ w.cell? ⟨g, k * 2 + 1, none⟩ = some (strV x.2) := by
  have h1 := h.loose.cells (g := g) rfl (k * 2 + 0) (.int .i64 (x.1 : Int)) (by rw [flatQ_get hk (by omega)]; rfl)
  have h2 := h.loose.cells (g := g) rfl (k * 2 + 1) (strV x.2) (by rw [flatQ_get hk (by omega)]; rfl)
  rw [Addr.add_mid, Nat.zero_add] at h1 h2
  exact ⟨h1, h2⟩
theorem QRep.far {w' : World} (h : QRep w p d F) (hs : w.heap.size ≤ w'.heap.size) (hk : ∀ b, F b → w'.heap[b]? = w.heap[b]?) : QRep w' p d F := by
  obtain ⟨gs, sc, lv, L, f1, f2, f3⟩ := h.lay
  exact ⟨h.ok, ⟨gs, sc, lv, ⟨(hk p f1).trans L.head, ownsRow_far L.sure (fun b hb => by simp [Value.ownBlock] at hb; subst hb; exact hk _ f2), ownsRow_far L.loose (fun b hb => hk b (f3 b hb))⟩, f1, f2, f3⟩,
    fun b hb => Nat.lt_of_lt_of_le (h.below b hb) hs⟩
theorem QRep.later {w' : World} (h : QRep w p d F) (t : Below w.heap.size w w') : QRep w' p d F :=
  h.far t.size fun b hb => t.block b (h.below b hb)
theorem QRep.mono {G : Nat → Prop} (h : QRep w p d F) (hG : ∀ b, F b → G b) (hb : ∀ b, G b → b < w.heap.size) : QRep w p d G := by
  obtain ⟨gs, sc, lv, L, f1, f2, f3⟩ := h.lay
  exact ⟨h.ok, ⟨gs, sc, lv, L, hG _ f1, hG _ f2, fun b hb => hG _ (f3 b hb)⟩, hb⟩
theorem QRep.grown {w' : World} (h : QRep w' p d F) (w : World) : QRep w' p d (grew F w w') :=
  h.mono (fun b hb => .inl hb) (by rintro b (hb | hb); · exact h.below b hb
                                   · exact hb.2)
/-- the fuse is another one -/
theorem QRep.setFuse (h : QRep w p d F) {n : Int} (h1 : -1 ≤ n) (h2 : n ≤ 9223372036854775807) :
    QRep (w.setCell ⟨p, 2, none⟩ (.int .i64 n)) p (d.setFuse n) F ∧ Touch F w (w.setCell ⟨p, 2, none⟩ (.int .i64 n)) := by
  have ht : ∀ u, F p → Touch F w (w.setCell ⟨p, 2, none⟩ u) := fun u hp => (Touch.refl F w).setCell (x := ⟨p, 2, none⟩) hp u
  obtain ⟨gs, sc, lv, L, f1, f2, f3⟩ := h.lay
  refine ⟨⟨h.ok.setFuse h1 h2, ⟨gs, sc, lv, ⟨?_, ?_, ?_⟩, f1, f2, f3⟩, fun b hb => by simpa using h.below b hb⟩, ht _ f1⟩
  · rw [heap_setCell_same w p 2 _ _ _ L.head]; rfl
  · exact ownsRow_far L.sure fun b hb => heap_setCell_other _ _ _ _ (by simp [Value.ownBlock] at hb; subst hb; exact fun e => L.ne e.symm)
  · exact ownsRow_far L.loose fun b hb => heap_setCell_other _ _ _ _ ((L.ne1 hb).1)
/-- nothing is loose -/
theorem QRep.forget (h : QRep w p d F) :
    QRep (w.setCell ⟨p, 1, none⟩ (.slice none 0 0)) p ⟨d.sure, [], d.fuse⟩ F ∧ Touch F w (w.setCell ⟨p, 1, none⟩ (.slice none 0 0)) := by
  have ht : F p → Touch F w (w.setCell ⟨p, 1, none⟩ (.slice none 0 0)) := fun hp => (Touch.refl F w).setCell (x := ⟨p, 1, none⟩) hp _
  obtain ⟨gs, sc, lv, L, f1, f2, f3⟩ := h.lay
  refine ⟨⟨⟨h.ok.one, h.ok.most, h.ok.each, by simp, h.ok.low, h.ok.high⟩, ⟨gs, sc, .slice none 0 0, ⟨?_, ?_, ?_⟩, f1, f2, by simp [Value.ownBlock]⟩, fun b hb => by simpa using h.below b hb⟩, ht f1⟩
  · rw [heap_setCell_same w p 1 _ _ (.slice none 0 0) L.head]; rfl
  · exact ownsRow_far L.sure fun b hb => by
      have : b ≠ p := by simp [Value.ownBlock] at hb; subst hb; exact fun e => L.ne e.symm
      rw [heap_setCell_other _ _ _ _ this]
  · exact World.ownsRow_nil _ _ _ _
/-- one is kept -/
theorem QRep.kept (h : QRep w p d F) {gs sc : Nat} (h0 : w.cell? ⟨p, 0, none⟩ = some (.slice (some ⟨gs, 0, none⟩) d.sure.length sc)) {x : Nat × List UInt8} (hm : x ∈ d.loose) :
    QRep (w.setCell ⟨gs, x.1, none⟩ (strV x.2)) p ⟨settle d.sure x, d.loose, d.fuse⟩ F ∧ Touch F w (w.setCell ⟨gs, x.1, none⟩ (strV x.2)) := by
  obtain ⟨gs', sc', lv, L, f1, f2, f3⟩ := h.lay
  have h1 := L.cell0
  rw [h0] at h1
  simp at h1
  obtain ⟨rfl, rfl⟩ := h1
  have hx := h.ok.there x hm
  refine ⟨⟨h.ok.settled (l := [x]) (by simpa using hm) h.ok.low h.ok.high d.loose (fun _ h => h), ⟨gs, sc, lv, ⟨?_, ?_, ?_⟩, f1, f2, f3⟩, fun b hb => by simpa using h.below b hb⟩, (Touch.refl F w).setCell (x := ⟨gs, x.1, none⟩) f2 _⟩
  · rw [heap_setCell_other _ _ _ _ (by exact L.ne)]
    show _ = some (Obj.cells #[.slice _ (settle d.sure x).length _, _, _] _ _)
    rw [settle_len]; exact L.head
  · have h2 := ownsRow_setCells L.sure x.1 [strV x.2] (by simp; exact hx.1)
    have e2 : (strs d.sure).take x.1 ++ [strV x.2] ++ (strs d.sure).drop (x.1 + [strV x.2].length) = strs (settle d.sure x) := by
      unfold settle
      rw [← strs_set, List.set_eq_take_append_cons_drop, if_pos (by rw [strs_len]; exact hx.1)]
      simp
    rw [e2] at h2
    show World.ownsRow _ _ _ _ (.slice _ (settle d.sure x).length _) (settle d.sure x).length _
    rw [settle_len]
    exact h2
  · exact ownsRow_far L.loose fun b hb => heap_setCell_other _ _ _ _ ((L.ne1 hb).2)
end

set_option maxRecDepth 100000 in
theorem qburn_any {w : World} {p : Nat} {d : D} {F : Nat → Prop} (h : QRep w p d F) :
    Calls Try.prog 88 #[.pointer (some ⟨p, 0, none⟩)] w fun e w' => e = .returned (.tuple #[]) ∧ (QRep w' p (d.setFuse (burnt d.fuse)) F ∧ Touch F w w') := by
  have hf1 := h.ok.low
  have hf2 := h.ok.high
  have hs := Lib.hid (h.setFuse (burnt_low hf1) (burnt_high hf2))
  have hr := Lib.hid h
  obtain ⟨gs, sc, lv, L, _⟩ := h.lay
  have c2 := L.cell2
  have fr := L.free 2
  clear L h
  by_cases h0 : 0 < d.fuse
  · have e : burnt d.fuse = d.fuse - 1 := by unfold burnt; rw [if_pos h0]
    rw [e] at hs ⊢
    clear e
    have e1 : decide (0 < d.fuse) = true := by simpa using h0
    go_enter Try.func88, Try.ntmps88
    go_wp2
    go_end0
    exact ⟨rfl, hs.out⟩
  · have e : burnt d.fuse = d.fuse := by unfold burnt; rw [if_neg h0]
    rw [e] at hs ⊢
    clear e
    have e1 : decide (0 < d.fuse) = false := by simpa using h0
    go_enter Try.func88, Try.ntmps88
    go_wp2
    go_end0
    exact ⟨rfl, hr.out, Touch.refl _ _⟩

set_option maxRecDepth 100000 in
theorem qkeep_any {w : World} {p : Nat} {d : D} {F : Nat → Prop} (h : QRep w p d F) {x : Nat × List UInt8} (hm : x ∈ d.loose) :
    Calls Try.prog 89 #[.pointer (some ⟨p, 0, none⟩), .agg #[.int .i64 (x.1 : Int), strV x.2]] w fun e w' => e = .returned (.tuple #[]) ∧ (QRep w' p ⟨settle d.sure x, d.loose, d.fuse⟩ F ∧ Touch F w w') := by
  have hx := h.ok.there x hm
  have B := (Below.refl w.heap.size w).alloc (Nat.le_refl _) (.cells #[.int .i64 (x.1 : Int), strV x.2] 121)
  have h1 := (h.later B).later ((Below.refl _ _).drew)
  obtain ⟨gs, sc, lv, L, f1, f2, f3⟩ := h1.lay
  have hk := h1.kept L.cell0 hm
  have HK := Lib.hid (show QRep ((w.alloc (.cells #[.int .i64 (x.1 : Int), strV x.2] 121)).drew.setCell ⟨gs, x.1, none⟩ (strV x.2)) p ⟨settle d.sure x, d.loose, d.fuse⟩ F ∧ Touch F w ((w.alloc (.cells #[.int .i64 (x.1 : Int), strV x.2] 121)).drew.setCell ⟨gs, x.1, none⟩ (strV x.2)) from ⟨hk.1, ((Touch.ofNew B).drew).trans' hk.2⟩)
  have c0 : (w.alloc (.cells #[.int .i64 (x.1 : Int), strV x.2] 121)).cell? ⟨p, 0, none⟩ = _ := L.cell0
  have ts := ownsRow_there L.sure x.1 1 (by omega) 0 (by omega)
  rw [Nat.add_zero] at ts
  obtain ⟨us, hus⟩ : ∃ us, _ = some us := Option.isSome_iff_exists.1 ts.1
  have hus' : (w.alloc (.cells #[.int .i64 (x.1 : Int), strV x.2] 121)).cell? ⟨gs, x.1, none⟩ = some us := hus
  have huf : (w.alloc (.cells #[.int .i64 (x.1 : Int), strV x.2] 121)).frozen? ⟨gs, x.1, none⟩ = false := ts.2
  have b2 : (0 : Int) ≤ (x.1 : Int) := Int.natCast_nonneg _
  have b3 : (x.1 : Int) < (d.sure.length : Int) := by omega
  have g0 : (w.alloc (.cells #[.int .i64 (x.1 : Int), strV x.2] 121)).cell? ⟨w.heap.size, 0, none⟩ = some (.int .i64 (x.1 : Int)) := by rw [cell_of_row _ _ _ _ _ _ (heap_alloc_new w _)]; rfl
  have g1 : (w.alloc (.cells #[.int .i64 (x.1 : Int), strV x.2] 121)).cell? ⟨w.heap.size, 1, none⟩ = some (strV x.2) := by rw [cell_of_row _ _ _ _ _ _ (heap_alloc_new w _)]; rfl
  clear hk L f3 ts hus B h h1 hm
  obtain ⟨s, hs⟩ : ∃ s : ByteArray, strV x.2 = .string s := ⟨_, rfl⟩
  rw [hs] at HK c0 hus' huf g0 g1 ⊢
  clear hs
  go_enter Try.func89, Try.ntmps89
  go_wp2_with fail
  generalize w.alloc (.cells #[.int .i64 (x.1 : Int), .string s] 121) = W at *
  generalize w.heap.size = g at *
  go_still_tail 9, (by kernel_rfl)
  go_wp2_with fail
  go_end0
  exact ⟨rfl, HK.out⟩

set_option maxRecDepth 100000 in
theorem qfuse_arg {w : World} {p : Nat} {d : D} {F : Nat → Prop} (h : QRep w p d F) {n : Int} (hn : n < 0) : Calls Try.prog 55 #[.pointer (some ⟨p, 0, none⟩), .int .i64 n] w fun e w' => e = .returned (.int .i64 2) ∧ w = w' := by
  have e1 : decide (n < 0) = true := decide_eq_true hn
  clear hn h
  go_enter Try.func55, Try.ntmps55
  go_wp2
  go_ret
  exact ⟨rfl, rfl⟩
set_option maxRecDepth 100000 in
theorem qfuse_any {w : World} {p : Nat} {d : D} {F : Nat → Prop} (h : QRep w p d F) {n : Int} (hn : 0 ≤ n) (hn2 : n ≤ 9223372036854775807) :
    Calls Try.prog 55 #[.pointer (some ⟨p, 0, none⟩), .int .i64 n] w fun e w' => e = .returned (.int .i64 0) ∧ (QRep w' p (d.setFuse n) F ∧ Touch F w w') := by
  have e1 : decide (n < 0) = false := decide_eq_false (by omega)
  have hs := Lib.hid (h.setFuse (n := n) (by omega) hn2)
  obtain ⟨gs, sc, lv, L, _⟩ := h.lay
  have c2 := L.cell2
  have fr := L.free 2
  clear hn hn2 h L
  go_enter Try.func55, Try.ntmps55
  go_wp2
  go_ret
  exact ⟨rfl, hs.out⟩

set_option maxRecDepth 100000 in
set_option maxHeartbeats 2000000 in
theorem qnow_any {w : World} {p : Nat} {d : D} {F : Nat → Prop} (h : QRep w p d F) (hl : d.loose.length ≤ 4611686018427387904) {k : Nat} (hk : k < d.sure.length) :
    Calls Try.prog 90 #[.pointer (some ⟨p, 0, none⟩), .int .i64 k] w fun e w' => e = .returned (.string ⟨(now d k).toArray⟩) ∧ w = w' := by
  obtain ⟨gs, sc, lv, L, _⟩ := h.lay
  have hks : d.sure[k]? = some d.sure[k] := List.getElem?_eq_getElem hk
  have c0 := L.cell0
  have c1 := L.cell1
  have cs := L.sureAt hks
  have b0 : (0 : Int) ≤ (k : Int) := Int.natCast_nonneg _
  have b1 : (k : Int) < (d.sure.length : Int) := by omega
  obtain ⟨a, cap, rfl⟩ := L.form
  have LL := Lib.hid L
  have w1 : IntKind.i64.wrap ((d.loose.length : Int) - 1) = (d.loose.length : Int) - 1 := IntWalk.i64_in _ (by omega)
  clear L h
  unfold strV at cs
  have HKS := Lib.hid hks
  clear hks
  go_enter Try.func90, Try.ntmps90
  go_wp2_with fail
  go_loopw [5] (fun i wr => ∃ m : Nat, m ≤ d.loose.length ∧ i = .int .i64 ((m : Int) - 1) ∧ (∀ (j : Nat) (y : Nat × List UInt8), m ≤ j → d.loose[j]? = some y → y.1 ≠ k) ∧ w = wr) (fun i _ => (intOf i + 1).toNat)
  case atStart => exact ⟨d.loose.length, by omega, by go_num, fun j y hj hy => (by rw [List.getElem?_eq_none hj] at hy; cases hy), rfl⟩
  case round =>
    obtain ⟨m, hm, rfl, hno, rfl⟩ := hrel
    cases m with
    | zero =>
      have hn : now d k = d.sure[k] := by
        unfold now
        rw [newest_none k d.loose fun j y hy => hno j y (Nat.zero_le _) hy]
        show d.sure.getD k [] = _
        rw [List.getD, HKS.out]; rfl
      have HN := Lib.hid hn
      clear hno hn
      go_wp2_with fail
      go_ret
      exact ⟨by rw [HN.out]; rfl, rfl⟩
    | succ i =>
      have hx : d.loose[i]? = some d.loose[i] := List.getElem?_eq_getElem (by omega)
      have hnil : 0 < d.loose.length := by omega
      obtain ⟨g, cap', hv, _, _⟩ := LL.out.loose.form hnil
      simp at hv
      obtain ⟨rfl, rfl⟩ := hv
      obtain ⟨l0, l1⟩ := LL.out.looseAt hx
      have bi0 : (0 : Int) ≤ (i : Int) := Int.natCast_nonneg _
      have bi1 : (i : Int) < (d.loose.length : Int) := by omega
      have wi : IntKind.i64.wrap ((i : Int) - 1) = (i : Int) - 1 := IntWalk.i64_in _ (by omega)
      by_cases he : d.loose[i].1 = k
      · have hn : now d k = d.loose[i].2 := by
          have h1 := newest_is k d.loose i d.loose[i].2 (by rw [hx, ← he]) hno
          unfold now
          rw [h1]
          simp [List.getD, hx]
        have HN := Lib.hid hn
        rw [he] at l0
        unfold strV at l1
        clear hn hno hx he
        go_wp2_with fail
        go_ret
        exact ⟨by rw [HN.out]; rfl, rfl⟩
      · have hno2 : ∀ (j : Nat) (y : Nat × List UInt8), i ≤ j → d.loose[j]? = some y → y.1 ≠ k := fun j y hj hy => by
          by_cases e : j = i
          · subst e
            rw [hx] at hy
            cases hy
            exact he
          · exact hno j y (by omega) hy
        have NO := Lib.hid hno2
        have e1 : ((d.loose[i].1 : Int) == (k : Int)) = false := by simp; omega
        clear hno hno2 hx he
        generalize d.loose[i].1 = k2 at *
        go_wp2_with fail
        go_roundw
        case rel => exact ⟨i, by omega, by go_num, NO.out, trivial⟩
        case measure => simp [intOf]

set_option maxRecDepth 100000 in
theorem qread_down {w : World} {p : Nat} {d : D} {F : Nat → Prop} (h : QRep w p d F) (hf : d.fuse = 0) (k : Int) :
    Calls Try.prog 54 #[.pointer (some ⟨p, 0, none⟩), .int .i64 k] w fun e w' => e = .returned (.tuple #[.string ⟨#[]⟩, .int .i64 40]) ∧ w = w' := by
  obtain ⟨gs, sc, lv, L, _⟩ := h.lay
  have c2 := L.cell2
  rw [hf] at c2
  clear L h
  go_enter Try.func54, Try.ntmps54
  go_wp2
  go_ret2
  exact ⟨rfl, rfl⟩
set_option maxRecDepth 100000 in
theorem qread_arg {w : World} {p : Nat} {d : D} {F : Nat → Prop} (h : QRep w p d F) (hf : d.fuse ≠ 0) (k : Int) (hk : hasB d.sure.length k = false) :
    Calls Try.prog 54 #[.pointer (some ⟨p, 0, none⟩), .int .i64 k] w fun e w' => e = .returned (.tuple #[.string ⟨#[]⟩, .int .i64 2]) ∧ w = w' := by
  obtain ⟨gs, sc, lv, L, _⟩ := h.lay
  have c2 := L.cell2
  have c0 := L.cell0
  have e1 : (d.fuse == 0) = false := by simpa using hf
  clear L h
  by_cases h0 : k < 0
  · have e2 : decide (k < 0) = true := decide_eq_true h0
    clear hk h0
    go_enter Try.func54, Try.ntmps54
    go_wp2
    go_ret2
    exact ⟨rfl, rfl⟩
  · have e2 : decide (k < 0) = false := decide_eq_false h0
    have e3 : decide ((d.sure.length : Int) ≤ k) = true := by
      unfold hasB at hk
      simp at hk ⊢
      omega
    clear hk h0
    go_enter Try.func54, Try.ntmps54
    go_wp2
    go_ret2
    exact ⟨rfl, rfl⟩
set_option maxRecDepth 100000 in
theorem qread_any {w : World} {p : Nat} {d : D} {F : Nat → Prop} (h : QRep w p d F) (hf : d.fuse ≠ 0) (hl : d.loose.length ≤ 4611686018427387904) {k : Nat} (hk : k < d.sure.length) :
    Calls Try.prog 54 #[.pointer (some ⟨p, 0, none⟩), .int .i64 k] w fun e w' => e = .returned (.tuple #[.string ⟨(now d k).toArray⟩, .int .i64 0]) ∧ w = w' := by
  have m := qnow_any h hl hk
  obtain ⟨gs, sc, lv, L, _⟩ := h.lay
  have c2 := L.cell2
  have c0 := L.cell0
  have e1 : (d.fuse == 0) = false := by simpa using hf
  have e2 : decide ((k : Int) < 0) = false := decide_eq_false (by omega)
  have e3 : decide ((d.sure.length : Int) ≤ (k : Int)) = false := decide_eq_false (by omega)
  clear L h
  go_enter Try.func54, Try.ntmps54
  go_wp2_with fail
  refine m.mono ?_
  rintro e w' ⟨rfl, rfl⟩
  go_wp2_with fail
  go_ret2
  exact ⟨rfl, rfl⟩

end Go.Proofs.Ytehfclgngkhcpaa.Disk
