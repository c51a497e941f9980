/- The document's disk: Write. -/
import Derived.Test.YtehfclgngkhcpaaQ2
namespace Go.Proofs.Ytehfclgngkhcpaa.Disk
open Go.RowKit
attribute [local go_sem ↓] Go.wp_at_zero Go.wp_at_succ

set_option maxRecDepth 100000 in
theorem infoQ : (Try.prog.info? 121).map (fun i => (i.zero, i.size, i.bytes)) = some (some (.agg #[.int .i64 0, .string ⟨#[]⟩]), 2, 24) := by kernel_rfl
theorem QRep.push {w w1 w5 : World} {p gs sc g cap k : Nat} {lv : Value} {d : D} {t : List UInt8} {F : Nat → Prop} (hok : d.ok) (hT : Touch F w w1) (L : QLay w1 p gs sc lv (d.setFuse (burnt d.fuse))) (f1 : F p) (f2 : F gs) (f3 : ∀ b, lv.ownBlock = some b → F b) (hF : ∀ b, F b → b < w1.heap.size)
    (hk : k < d.sure.length) (ht : t.length = 128) (o : Obj) (hg : (w1.alloc o).grownBy w5 lv.ownBlock)
    (hown : w5.ownsRow 0 121 2 (.slice (some ⟨g, 0, none⟩) (d.loose.length + 1) cap) (d.loose.length + 1) (flatQ d.loose ++ cellsQ (k, t))) (hat : lv.ownBlock = some g ∨ g = w1.heap.size + 1) (hlt : g < w5.heap.size) :
    QRep (w5.setCell ⟨p, 1, none⟩ (.slice (some ⟨g, 0, none⟩) (d.loose.length + 1) cap)) p (d.write k t) (grew F w (w5.setCell ⟨p, 1, none⟩ (.slice (some ⟨g, 0, none⟩) (d.loose.length + 1) cap))) ∧ Touch F w (w5.setCell ⟨p, 1, none⟩ (.slice (some ⟨g, 0, none⟩) (d.loose.length + 1) cap)) := by
  have hs := hT.size
  have hs2 : w1.heap.size + 1 ≤ w5.heap.size := by have := hg.size; simpa using this
  have hp := hF p f1
  have hgs := hF gs f2
  have np : some p ≠ lv.ownBlock := fun e => (L.ne1 e.symm).1 rfl
  have ngs : some gs ≠ lv.ownBlock := fun e => (L.ne1 e.symm).2 rfl
  have hgp : g ≠ p := by
    rcases hat with h | h
    · exact (L.ne1 h).1
    · omega
  have far : ∀ b, b < w1.heap.size → some b ≠ lv.ownBlock → w5.heap[b]? = w1.heap[b]? := fun b hb hn => (hg.block b (by simp; omega) hn).trans (Below.heap_alloc w1 o b hb)
  refine ⟨⟨hok.write hk ht, ⟨gs, sc, .slice (some ⟨g, 0, none⟩) (d.loose.length + 1) cap, ⟨?_, ?_, ?_⟩, .inl f1, .inl f2, fun b hb => ?_⟩, fun b hb => ?_⟩, ((hT.alloc o).grown hg f3).setCell (x := ⟨p, 1, none⟩) f1 _⟩
  · rw [heap_setCell_same w5 p 1 _ _ (.slice (some ⟨g, 0, none⟩) (d.loose.length + 1) cap) ((far p hp np).trans L.head)]
    rfl
  · exact ownsRow_far L.sure fun b hb => by
      simp [Value.ownBlock] at hb; subst hb
      rw [heap_setCell_other _ _ _ _ (fun e => L.ne e.symm)]
      exact far _ hgs ngs
  · have e1 : (d.write k t).loose.length = d.loose.length + 1 := by simp [D.write]
    have e2 : flatQ (d.write k t).loose = flatQ d.loose ++ cellsQ (k, t) := flatQ_snoc _ _
    rw [e1, e2]
    exact ownsRow_far hown fun b hb => by
      simp [Value.ownBlock] at hb; subst hb
      exact heap_setCell_other _ _ _ _ hgp
  · simp [Value.ownBlock] at hb
    subst hb
    rcases hat with h | h
    · exact .inl (f3 _ h)
    · exact .inr ⟨by omega, by simp; exact hlt⟩
  · rcases hb with hb | hb
    · have := hF b hb; simp; omega
    · exact hb.2

set_option maxRecDepth 100000 in
theorem qwrite_down {w : World} {p : Nat} {d : D} {F : Nat → Prop} (h : QRep w p d F) (hf : d.fuse = 0) (k : Int) (s : ByteArray) : Calls Try.prog 58 #[.pointer (some ⟨p, 0, none⟩), .int .i64 k, .string s] w fun e w' => e = .returned (.int .i64 40) ∧ w = w' := by
  obtain ⟨gs, sc, lv, L, _⟩ := h.lay
  have c2 := L.cell2
  rw [hf] at c2
  clear L h
  go_enter Try.func58, Try.ntmps58
  go_wp2
  go_ret
  exact ⟨rfl, rfl⟩
set_option maxRecDepth 100000 in
theorem qwrite_arg {w : World} {p : Nat} {d : D} {F : Nat → Prop} (h : QRep w p d F) (hf : d.fuse ≠ 0) (k : Int) (s : ByteArray) (hk : hasB d.sure.length k = false ∨ s.size ≠ 128) : Calls Try.prog 58 #[.pointer (some ⟨p, 0, none⟩), .int .i64 k, .string s] w fun e w' => e = .returned (.int .i64 2) ∧ w = w' := by
  obtain ⟨gs, sc, lv, L, _⟩ := h.lay
  have c2 := L.cell2
  have c0 := L.cell0
  have e1 : (d.fuse == 0) = false := by simpa using hf
  clear L h
  by_cases h0 : k < 0
  · have e2 : decide (k < 0) = true := decide_eq_true h0
    clear hk h0
    go_enter Try.func58, Try.ntmps58
    go_wp2
    go_ret
    exact ⟨rfl, rfl⟩
  · have e2 : decide (k < 0) = false := decide_eq_false h0
    by_cases h1 : (d.sure.length : Int) ≤ k
    · have e3 : decide ((d.sure.length : Int) ≤ k) = true := decide_eq_true h1
      clear hk h0 h1
      go_enter Try.func58, Try.ntmps58
      go_wp2
      go_ret
      exact ⟨rfl, rfl⟩
    · have e3 : decide ((d.sure.length : Int) ≤ k) = false := decide_eq_false h1
      have e4 : ((s.size : Int) != 128) = true := by
        rcases hk with hk | hk
        · unfold hasB at hk
          simp at hk
          omega
        · simp; omega
      clear hk h0 h1
      go_enter Try.func58, Try.ntmps58
      go_wp2
      go_ret
      exact ⟨rfl, rfl⟩

set_option maxRecDepth 100000 in
set_option maxHeartbeats 2000000 in
theorem qwrite_any {w : World} {p : Nat} {d : D} {F : Nat → Prop} (h : QRep w p d F) (hf : d.fuse ≠ 0) {k : Nat} (hk : k < d.sure.length) (s : ByteArray) (hs : s.size = 128) (hl : d.loose.length ≤ 1000000000) :
    Calls Try.prog 58 #[.pointer (some ⟨p, 0, none⟩), .int .i64 k, .string s] w fun e w' => e = .returned (.int .i64 0) ∧ (QRep w' p (d.write k s.data.toList) (grew F w w') ∧ Touch F w w') := by
  have hb := qburn_any h
  have hok := Lib.hid h.ok
  obtain ⟨gs, sc, lv, L, _⟩ := h.lay
  have c2 := L.cell2
  have c0 := L.cell0
  have e1 : (d.fuse == 0) = false := by simpa using hf
  have e2 : decide ((k : Int) < 0) = false := decide_eq_false (by omega)
  have e3 : decide ((d.sure.length : Int) ≤ (k : Int)) = false := decide_eq_false (by omega)
  have e4 : ((s.size : Int) != 128) = false := by simp; omega
  clear L h hf
  go_enter Try.func58, Try.ntmps58
  go_wp2_with fail
  refine hb.mono ?_
  rintro e w1 ⟨rfl, h1, t1⟩
  obtain ⟨gs', sc', lv', L, f1, f2, f3⟩ := h1.lay
  have c1 := L.cell1
  have hp1 := h1.below p f1
  have LL := Lib.hid L
  have TT := Lib.hid t1
  have bb := Lib.hid h1.below
  have F3 := Lib.hid f3
  have fr := L.free 1
  have ho : w1.ownsRow 0 121 2 lv' d.loose.length (flatQ d.loose) := L.loose
  have np : some p ≠ lv'.ownBlock := fun e => (L.ne1 e.symm).1 rfl
  obtain ⟨i0, hi, hz0, hz1, hz2⟩ := info_parts infoQ
  have hn1 := World.news_of_block (cs := #[.int .i64 (k : Int), .string s]) (heap_alloc_new w1 (.cells #[.int .i64 (k : Int), .string s] 121))
  clear c0 c2 e1 e2 e3 e4 L h1 t1 f3 hb
  go_wp2_with (at_builtin; refine wpList_append_lies _ rfl _ _ _ rfl 0 121 i0 _ 2 24 Try.underlying35 hi hz0 hz1 hz2 rfl (by omega) _ d.loose.length (flatQ d.loose) (by rfl) (ho.alloc _) ⟨w1.heap.size, 0, none⟩ 1 1 [.int .i64 (k : Int), .string s] (by rfl) rfl hn1 (by intro u hu; simp at hu; rcases hu with rfl | rfl <;> rfl) (by omega) (by unfold maxLen; omega) (by omega) (by omega) _ rfl ?_)
  intro g cap w5 hown hgrow hat hlt
  have PE := Lib.hid (QRep.push hok.out TT.out LL.out f1 f2 F3.out bb.out hk (t := s.data.toList) hs _ hgrow hown hat hlt)
  have kx : w5.cell? ⟨p, 1, none⟩ = some lv' := hgrow.cell (by rw [World.cell?_alloc_lt _ _ _ (by exact hp1)]; exact c1) np
  have ky : w5.frozen? ⟨p, 1, none⟩ = false := by
    rw [hgrow.frozen_far ⟨p, 1, none⟩ (by show p < (w1.alloc _).heap.size; simp; omega) np, World.frozen?_of_block (Below.heap_alloc w1 _ p (by exact hp1))]
    exact fr
  clear hown hgrow hat hlt ho hn1 hi hz0 hz1 hz2 c1 fr
  go_wp2_with fail
  go_ret
  exact ⟨rfl, PE.out⟩

end Go.Proofs.Ytehfclgngkhcpaa.Disk
