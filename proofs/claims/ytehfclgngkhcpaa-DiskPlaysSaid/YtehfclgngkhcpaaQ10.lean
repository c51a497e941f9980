/- does: both disks answer alike. -/
import Derived.Test.YtehfclgngkhcpaaQ9
import Derived.WalkMore
import Derived.Outline
namespace Go.Proofs.Ytehfclgngkhcpaa.Disk
open Go.RowKit
attribute [local go_sem ↓] Go.wp_at_zero Go.wp_at_succ

def DoesPost (w : World) (p q : Nat) (d : D) (e : Ending) (w' : World) : Prop := e = .returned (.bool true) ∧ ∃ d', Play w w' p q d' d' (fun _ => False) ∧ d'.loose.length ≤ d.loose.length + 1
theorem sRes_len (d : D) : (sRes d).loose.length ≤ d.loose.length + 1 := by unfold sRes; split <;> simp [D.sync]
theorem fRes_len (d : D) (n : Int) : (fRes d n).loose.length ≤ d.loose.length + 1 := by unfold fRes; split <;> simp [D.setFuse]
theorem wRes_len (d : D) (k : Int) (s : ByteArray) : (wRes d k s).loose.length ≤ d.loose.length + 1 := by unfold wRes; split; simp; split <;> simp [D.write]


/-- a block of its own, and both disks -/
def Box (w W : World) (p q g : Nat) (a b : D) (c : Cl) : Prop := Play w W p q a b (fun x => x = g) ∧ W.heap[g]? = some (.cells (clV c) 40 (0, 0))
section
variable {w W : World} {p q g : Nat} {a b : D} {c : Cl}
theorem Box.later {W' : World} (h : Box w W p q g a b c) (t : Below W.heap.size W W') : Box w W' p q g a b c := ⟨h.1.later t, (h.1.keeps t g rfl).trans h.2⟩
theorem Box.mine (h : Box w W p q g a b c) : ∃ F, Rep W p a F ∧ ∀ wj a', Rep wj p a' (grew F W wj) ∧ Touch F W wj → Box w wj p q g a' b c := by
  obtain ⟨F, r, _, hn⟩ := h.1.mine
  exact ⟨F, r, fun wj a' hj => ⟨(hn wj a' hj).1, ((hn wj a' hj).2 g rfl).trans h.2⟩⟩
theorem Box.doc (h : Box w W p q g a b c) : ∃ G, QRep W q b G ∧ (∀ x, G x → w.heap.size ≤ x) ∧ ∀ wj b', QRep wj q b' (grew G W wj) ∧ Touch G W wj → Box w wj p q g a b' c := by
  obtain ⟨G, r, h1, hn⟩ := h.1.doc
  exact ⟨G, r, h1, fun wj b' hj => ⟨(hn wj b' hj).1, ((hn wj b' hj).2 g rfl).trans h.2⟩⟩
theorem Box.cell1 (h : Box w W p q g a b c) : W.cell? ⟨g, 1, none⟩ = some (.int .i64 c.k) := by rw [cell_of_row _ _ _ _ _ _ h.2]; rfl
theorem Box.cell5 (h : Box w W p q g a b c) : W.cell? ⟨g, 5, none⟩ = some (.int .i64 c.n) := by rw [cell_of_row _ _ _ _ _ _ h.2]; rfl
theorem Box.cell6 (h : Box w W p q g a b c) : W.cell? ⟨g, 6, none⟩ = some c.kv := by rw [cell_of_row _ _ _ _ _ _ h.2]; rfl
theorem Box.all (h : Box w W p q g a b c) {ka : Option Addr} {kc : Nat} (hkv : c.kv = .slice ka c.keep.length kc) : W.cell? ⟨g, 0, none⟩ = some (.int .u8 c.op) ∧ W.cell? ⟨g, 1, none⟩ = some (.int .i64 c.k) ∧ W.cell? ⟨g, 2, none⟩ = some (.int .u8 (c.c.toNat : Int)) ∧ W.cell? ⟨g, 3, none⟩ = some (.bool c.odd) ∧ W.cell? ⟨g, 4, none⟩ = some (.string c.s) ∧ W.cell? ⟨g, 5, none⟩ = some (.int .i64 c.n) ∧ W.cell? ⟨g, 6, none⟩ = some (.slice ka c.keep.length kc) ∧ ∃ a b, Box w W p q g a b c := by
  rw [← hkv]
  refine ⟨?_, ?_, ?_, ?_, ?_, ?_, ?_, a, b, h⟩ <;> rw [cell_of_row _ _ _ _ _ _ h.2] <;> rfl
theorem Box.fin (h : Box w W p q g a a c) : Play w W p q a a (fun _ => False) := h.1.laterB (Below.refl _ _) fun _ hx => hx.elim
theorem Box.range (h : Box w W p q g a b c) : W.rangeAt g 0 (clV c).toList := fun j v hv => by rw [cell_of_row _ _ _ _ _ _ h.2, Nat.zero_add]; simpa using hv
end

set_option maxRecDepth 100000 in
set_option maxHeartbeats 8000000 in
theorem does_any {w wi : World} {p q : Nat} {d : D} (h : Play w wi p q d d (fun _ => False)) (hl : d.loose.length ≤ 1000000) (c : Cl) {ka : Option Addr} {kc : Nat} (hkv : c.kv = .slice ka c.keep.length kc) (hkb : Bools wi c.kv c.keep) (hkl : c.keep.length ≤ 1000000) (hkf : c.keep ≠ [] → ∀ b, c.kv.ownBlock = some b → b < w.heap.size)
    (hop : 0 ≤ c.op ∧ c.op ≤ 255) (hn : c.n ≤ 9223372036854775807) :
    Calls Try.prog 20 #[.pointer (some ⟨p, 0, none⟩), .pointer (some ⟨q, 0, none⟩), .agg (clV c)] wi (DoesPost w p q d) := by
  have tA : ∀ W, Calls Try.prog 57 #[.agg #[.int .u8 c.op, .int .i64 c.k, .int .u8 (c.c.toNat : Int), .bool c.odd, .string c.s, .int .i64 c.n, .slice ka c.keep.length kc]] W fun e w' => e = .returned (.string (tx c)) ∧ Below W.heap.size W w' := fun W => by
    have := text_any c hkv W
    unfold clV at this
    rw [hkv] at this
    exact this
  obtain ⟨W, hW⟩ : ∃ W, W = wi.alloc (.cells (clV c) 40) := ⟨_, rfl⟩
  have hrow : W.heap[wi.heap.size]? = some (.cells (clV c) 40 (0, 0)) := by rw [hW]; exact heap_alloc_new _ _
  have bW : Below wi.heap.size wi W := by rw [hW]; exact (Below.refl _ _).alloc (Nat.le_refl _) _
  have hbx : Box w W p q wi.heap.size d d c := ⟨h.laterB bW fun x hx => .inr ⟨by omega, by rw [hW]; simp; omega⟩, hrow⟩
  have g0 : W.cell? ⟨wi.heap.size, 0, none⟩ = some (.int .u8 c.op) := by rw [cell_of_row _ _ _ _ _ _ hrow]; rfl
  have g1 := hbx.cell1
  have g5 := hbx.cell5
  have g6 := hbx.cell6
  have BX := Lib.hid hbx
  have KB := Lib.hid (show ∀ X, Below w.heap.size w X → Bools X c.kv c.keep from fun X t => by
    by_cases hke : c.keep = []
    · obtain ⟨a, n, hv, _⟩ := hkb
      exact ⟨a, n, hv, fun i b hb => by rw [hke] at hb; simp at hb⟩
    · exact hkb.far fun b hb _ => (t.block b (hkf hke b hb)).trans (h.below.block b (hkf hke b hb)).symm)
  have TA := Lib.hid tA
  unfold clV at hW ⊢
  rw [hkv] at hW g6 ⊢
  clear hkb h bW hrow tA hbx
  go_enter Try.func20, Try.ntmps20
  by_cases h3 : c.op % 8 = 3
  · have e3 : (c.op % 8 == 3) = true := by simpa using h3
    obtain ⟨F, r, hnext⟩ := BX.out.mine
    have cs := Lib.hid (sync_tot r (by omega))
    have NX := Lib.hid hnext
    clear r hnext h3
    go_wp2_with (rw [← hW])
    clear hW
    refine cs.out.mono ?_
    rintro e wb ⟨rfl, hb⟩
    have hp := NX.out _ _ hb
    have len := sRes_len d
    obtain ⟨G, r, _, hnext⟩ := hp.doc
    have cq := Lib.hid (qsync_tot r (by omega))
    have NQ := Lib.hid hnext
    clear hb hp r hnext cs NX
    go_wp2_with fail
    refine cq.out.mono ?_
    rintro e wc ⟨rfl, hc⟩
    have HE := Lib.hid (show ∃ d', Play w wc p q d' d' (fun _ => False) ∧ d'.loose.length ≤ d.loose.length + 1 from ⟨_, (NQ.out _ _ hc).fin, len⟩)
    clear hc cq NQ
    go_wp2_with fail
    go_ret
    exact ⟨rfl, HE.out⟩
  have e3 : (c.op % 8 == 3) = false := by simpa using h3
  by_cases h4 : c.op % 8 = 4
  · have e4 : (c.op % 8 == 4) = true := by simpa using h4
    obtain ⟨F, r, _⟩ := BX.out.mine
    obtain ⟨G, r2, _⟩ := BX.out.doc
    have cs := Lib.hid (read_tot r c.k)
    have cq := Lib.hid (qread_tot r2 c.k (by omega))
    have HE := Lib.hid (show ∃ d', Play w W p q d' d' (fun _ => False) ∧ d'.loose.length ≤ d.loose.length + 1 from ⟨_, BX.out.fin, by omega⟩)
    clear r r2 h4 h3
    go_wp2_with (rw [← hW])
    clear hW
    refine cs.out.mono ?_
    rintro e wb ⟨rfl, rfl⟩
    go_wp2_with fail
    refine cq.out.mono ?_
    rintro e wb ⟨rfl, rfl⟩
    go_wp2_with fail
    go_ret
    exact ⟨rfl, HE.out⟩
  have e4 : (c.op % 8 == 4) = false := by simpa using h4
  by_cases h5 : c.op % 8 = 5
  · have e5 : (c.op % 8 == 5) = true := by simpa using h5
    have len := fRes_len d c.n
    clear h3 h4 h5
    go_wp2_with (rw [← hW])
    clear hW g0 g1 g6
    generalize wi.heap.size = g at *
    go_region_held3 (fun w' => w'.cell? ⟨g, 5, none⟩ = some (.int .i64 c.n) ∧ ∃ a b, Box w w' p q g a b c)
      (first | exact ⟨by simpa using g5, d, d, BX.out.later ((Below.refl _ _).drew)⟩ | exact ⟨hc2.cell5, _, _, hc2⟩ | exact ⟨hc1.cell5, _, _, hc1⟩)
      (first
        | (go_at_call 43; obtain ⟨F, r, hnext⟩ := (BX.out.later ((Below.refl _ W).drew)).mine; refine Calls.mono (fuse_tot r c.n hn) ?_; rintro e w' ⟨rfl, hc⟩; have hc1 := hnext _ _ hc; clear hc hnext r)
        | (go_at_call 55; obtain ⟨F, r, _, hnext⟩ := hc1.doc; refine Calls.mono (qfuse_tot r c.n hn) ?_; rintro e w' ⟨rfl, hc⟩; have hc2 := hnext _ _ hc; clear hc hnext r))
    have HE := Lib.hid (show ∃ d', Play w w' p q d' d' (fun _ => False) ∧ d'.loose.length ≤ d.loose.length + 1 from ⟨_, hc2.fin, len⟩)
    clear hc1 hc2
    go_wp2_with fail
    go_ret
    exact ⟨rfl, HE.out⟩
  have e5 : (c.op % 8 == 5) = false := by simpa using h5
  by_cases h6 : c.op % 8 = 6
  · have e6 : (c.op % 8 == 6) = true := by simpa using h6
    obtain ⟨G, r, hG, hnext⟩ := BX.out.doc
    have hkW := KB.out W BX.out.1.below
    rw [hkv] at hkW
    have cq := Lib.hid (qcrash_any r (by omega) hkW (by omega) (fun hke b hb hg => by have := hG b hg; have := hkf hke b (by rw [hkv]; exact hb); omega))
    have NQ := Lib.hid hnext
    clear r hG hnext hkW h3 h4 h5 h6
    go_wp2_with (rw [← hW])
    clear hW
    refine cq.out.mono ?_
    rintro e wb ⟨rfl, hb⟩
    have hp := NQ.out _ _ (show _ ∧ _ from ⟨hb.1.grown _, hb.2⟩)
    have g6b := hp.cell6
    rw [hkv] at g6b
    have ltb : wi.heap.size < wb.heap.size := World.block_lt_of_cell? _ _ g6b
    have g6a : (wb.alloc (.cells #[] 4)).cell? ⟨wi.heap.size, 6, none⟩ = some (.slice ka c.keep.length kc) := by rw [World.cell?_alloc_lt _ _ _ (by exact ltb)]; exact g6b
    have hkb := KB.out wb hp.1.below
    rw [hkv] at hkb
    obtain ⟨v', x4, hr4, hB4, hb4, hf4⟩ := copy_bools hkb (by omega) 38
    obtain ⟨F, r, hnext⟩ := hp.mine
    have hbel := r.below
    have r4 := r.later hb4
    have c1 := Lib.hid (crash_any r4 (by omega) hB4 (by omega) (fun b hb hF => by have := hf4 b hb; have := hbel b hF; omega))
    have HR4 := Lib.hid hr4
    have T4 := Lib.hid hb4
    have NX := Lib.hid hnext
    clear hb hp hkb hr4 hB4 hf4 r r4 hnext hbel cq NQ g0 g1 g5 g6 hb4
    go_wp2_with (at_builtin; refine wpList_append_run rfl _ _ _ rfl 38 rfl _ _ v' x4 rfl rfl HR4.out ?_)
    refine c1.out.mono ?_
    rintro e wc ⟨rfl, hc⟩
    have HE := Lib.hid (show ∃ d', Play w wc p q d' d' (fun _ => False) ∧ d'.loose.length ≤ d.loose.length + 1 from ⟨_, (NX.out _ _ ⟨hc.1.grown _, (Touch.ofNew T4.out).trans' hc.2⟩).fin, by simp [D.crash]⟩)
    clear hc c1 NX HR4 T4
    go_wp2_with fail
    go_ret
    exact ⟨rfl, HE.out⟩
  have e6 : (c.op % 8 == 6) = false := by simpa using h6
  have len := wRes_len d c.k (tx c)
  clear h3 h4 h5 h6
  go_wp2_with (rw [← hW])
  clear hW g0 g1 g5 g6
  generalize wi.heap.size = g at *
  go_region_held3 (fun w' => w'.cell? ⟨g, 0, none⟩ = some (.int .u8 c.op) ∧ w'.cell? ⟨g, 1, none⟩ = some (.int .i64 c.k) ∧ w'.cell? ⟨g, 2, none⟩ = some (.int .u8 (c.c.toNat : Int)) ∧ w'.cell? ⟨g, 3, none⟩ = some (.bool c.odd) ∧ w'.cell? ⟨g, 4, none⟩ = some (.string c.s) ∧ w'.cell? ⟨g, 5, none⟩ = some (.int .i64 c.n) ∧ w'.cell? ⟨g, 6, none⟩ = some (.slice ka c.keep.length kc) ∧ ∃ a b, Box w w' p q g a b c)
    (first | exact (BX.out.later ((Below.refl _ _).drew)).all hkv | exact hc2.all hkv | exact hb3.all hkv | exact hc1.all hkv | exact hb1.all hkv)
    (first
      | (go_at_call 17; obtain ⟨F, r, hnext⟩ := hb1.mine; refine Calls.mono (write_tot r c.k (tx c) (by omega)) ?_; rintro e w' ⟨rfl, hc⟩; have hc1 := hnext _ _ hc; clear hc hnext r)
      | (go_at_call 58; obtain ⟨G, r, _, hnext⟩ := hb3.doc; refine Calls.mono (qwrite_tot r c.k (tx c) (by omega)) ?_; rintro e w' ⟨rfl, hc⟩; have hc2 := hnext _ _ hc; clear hc hnext r)
      | (go_at_call 57; refine Calls.mono (TA.out _) ?_; rintro e w' ⟨rfl, hc⟩; have hb3 := hc1.later hc; clear hc)
      | (go_at_call 57; refine Calls.mono (TA.out _) ?_; rintro e w' ⟨rfl, hc⟩; have hb1 := (BX.out.later ((Below.refl _ W).drew)).later hc; clear hc))
  have HE := Lib.hid (show ∃ d', Play w w' p q d' d' (fun _ => False) ∧ d'.loose.length ≤ d.loose.length + 1 from ⟨_, hc2.fin, len⟩)
  clear hc1 hc2 hb1 hb3
  go_wp2_with fail
  go_ret
  exact ⟨rfl, HE.out⟩

end Go.Proofs.Ytehfclgngkhcpaa.Disk
