/- Call.text; both disks side by side. -/
import Derived.Test.YtehfclgngkhcpaaQ8
namespace Go.Proofs.Ytehfclgngkhcpaa.Disk
open Go.RowKit
attribute [local go_sem ↓] Go.wp_at_zero Go.wp_at_succ

set_option maxRecDepth 100000 in
theorem full_c (c : UInt8) (w : World) : Calls Try.prog 18 #[.int .u8 (c.toNat : Int)] w fun e w' => e = .returned (.string (fullB c)) ∧ Below w.heap.size w w' := full_any c w
def tx (c : Cl) : ByteArray := if c.odd then c.s else fullB c.c
def clV (c : Cl) : Array Value := #[.int .u8 c.op, .int .i64 c.k, .int .u8 (c.c.toNat : Int), .bool c.odd, .string c.s, .int .i64 c.n, c.kv]
set_option maxRecDepth 100000 in
theorem text_any (c : Cl) {ka : Option Addr} {kn kc : Nat} (hk : c.kv = .slice ka kn kc) (w : World) :
    Calls Try.prog 57 #[.agg (clV c)] w fun e w' => e = .returned (.string (tx c)) ∧ Below w.heap.size w w' := by
  obtain ⟨op, k, ch, odd, s, n, kv, keep⟩ := c
  simp only at hk
  subst hk
  unfold clV tx
  simp only
  cases odd with
  | true =>
    have HB := Lib.hid ((Below.refl w.heap.size w).alloc (Nat.le_refl _) (.cells #[.int .u8 op, .int .i64 k, .int .u8 (ch.toNat : Int), .bool true, .string s, .int .i64 n, .slice ka kn kc] 40))
    have g3 : (w.alloc (.cells #[.int .u8 op, .int .i64 k, .int .u8 (ch.toNat : Int), .bool true, .string s, .int .i64 n, .slice ka kn kc] 40)).cell? ⟨w.heap.size, 3, none⟩ = some (.bool true) := by rw [cell_of_row _ _ _ _ _ _ (heap_alloc_new w _)]; rfl
    have g4 : (w.alloc (.cells #[.int .u8 op, .int .i64 k, .int .u8 (ch.toNat : Int), .bool true, .string s, .int .i64 n, .slice ka kn kc] 40)).cell? ⟨w.heap.size, 4, none⟩ = some (.string s) := by rw [cell_of_row _ _ _ _ _ _ (heap_alloc_new w _)]; rfl
    go_enter Try.func57, Try.ntmps57
    go_wp2_with fail
    go_ret
    exact ⟨rfl, HB.out⟩
  | false =>
    have HB := Lib.hid ((Below.refl w.heap.size w).alloc (Nat.le_refl _) (.cells #[.int .u8 op, .int .i64 k, .int .u8 (ch.toNat : Int), .bool false, .string s, .int .i64 n, .slice ka kn kc] 40))
    have g3 : (w.alloc (.cells #[.int .u8 op, .int .i64 k, .int .u8 (ch.toNat : Int), .bool false, .string s, .int .i64 n, .slice ka kn kc] 40)).cell? ⟨w.heap.size, 3, none⟩ = some (.bool false) := by rw [cell_of_row _ _ _ _ _ _ (heap_alloc_new w _)]; rfl
    have g2 : (w.alloc (.cells #[.int .u8 op, .int .i64 k, .int .u8 (ch.toNat : Int), .bool false, .string s, .int .i64 n, .slice ka kn kc] 40)).cell? ⟨w.heap.size, 2, none⟩ = some (.int .u8 (ch.toNat : Int)) := by rw [cell_of_row _ _ _ _ _ _ (heap_alloc_new w _)]; rfl
    go_enter Try.func57, Try.ntmps57
    go_wp2_with fail
    refine (full_c ch _).mono ?_
    rintro e w' ⟨rfl, b⟩
    have HB2 := Lib.hid (HB.out.trans (b.mono HB.out.size))
    clear b
    go_wp2_with fail
    go_ret
    exact ⟨rfl, HB2.out⟩

/-- both disks, apart from each other and from the blocks B -/
structure Play (w wi : World) (p q : Nat) (a b : D) (B : Nat → Prop) : Prop where
  ex : ∃ G, Own w wi (fun x => G x ∨ B x) [(p, a)] ∧ QRep wi q b G ∧ ∀ x, G x → ¬ B x
theorem Play.below {w wi : World} {p q : Nat} {a b : D} {B : Nat → Prop} (h : Play w wi p q a b B) : Below w.heap.size w wi := by
  obtain ⟨G, h1, _⟩ := h.ex
  exact h1.below
theorem Play.laterB {w wi wj : World} {p q : Nat} {a b : D} {B B' : Nat → Prop} (h : Play w wi p q a b B) (t : Below wi.heap.size wi wj) (hB : ∀ x, B' x → B x ∨ (wi.heap.size ≤ x ∧ x < wj.heap.size)) : Play w wj p q a b B' := by
  obtain ⟨G, h1, h2, h3⟩ := h.ex
  refine ⟨G, h1.laterE t fun x hx => ?_, h2.later t, fun x hx hb => ?_⟩
  · rcases hx with hx | hx
    · exact .inl (.inl hx)
    · rcases hB x hx with h | h
      · exact .inl (.inr h)
      · exact .inr h
  · rcases hB x hb with h | h
    · exact h3 x hx h
    · have := h2.below x hx; omega
theorem Play.later {w wi wj : World} {p q : Nat} {a b : D} {B : Nat → Prop} (h : Play w wi p q a b B) (t : Below wi.heap.size wi wj) : Play w wj p q a b B := h.laterB t fun _ hx => .inl hx
theorem Play.keeps {w wi wj : World} {p q : Nat} {a b : D} {B : Nat → Prop} (h : Play w wi p q a b B) (t : Below wi.heap.size wi wj) : ∀ x, B x → wj.heap[x]? = wi.heap[x]? := fun x hx => by
  obtain ⟨G, h1, _⟩ := h.ex
  exact t.block x (h1.ext x (.inr hx)).1
/-- a call of the program's disk -/
theorem Play.mine {w wi : World} {p q : Nat} {a b : D} {B : Nat → Prop} (h : Play w wi p q a b B) : ∃ F, Rep wi p a F ∧ (∀ x, B x → ¬ F x) ∧ ∀ wj a', Rep wj p a' (grew F wi wj) ∧ Touch F wi wj → Play w wj p q a' b B ∧ ∀ x, B x → wj.heap[x]? = wi.heap[x]? := by
  obtain ⟨G, h1, h2, h3⟩ := h.ex
  obtain ⟨F, r, hE, hnext⟩ := h1.call (i := 0) rfl
  refine ⟨F, r, fun x hx => hE x (.inr hx), fun wj a' hj => ?_⟩
  have hn := hnext wj a' hj
  exact ⟨⟨G, hn.1, h2.far hj.2.size fun x hx => hn.2 x (.inl hx), h3⟩, fun x hx => hn.2 x (.inr hx)⟩
/-- a call of the document's -/
theorem Play.doc {w wi : World} {p q : Nat} {a b : D} {B : Nat → Prop} (h : Play w wi p q a b B) : ∃ G, QRep wi q b G ∧ (∀ x, G x → w.heap.size ≤ x) ∧ ∀ wj b', QRep wj q b' (grew G wi wj) ∧ Touch G wi wj → Play w wj p q a b' B ∧ ∀ x, B x → wj.heap[x]? = wi.heap[x]? := by
  obtain ⟨G, h1, h2, h3⟩ := h.ex
  have hlt : ∀ x, B x → x < wi.heap.size := fun x hx => (h1.ext x (.inr hx)).1
  refine ⟨G, h2, fun x hx => (h1.ext x (.inl hx)).2, fun wj b' hj => ⟨⟨grew G wi wj, ?_, hj.1, fun x hx hB => ?_⟩, fun x hx => hj.2.block x (hlt x hx) fun hG => h3 x hG hx⟩⟩
  · obtain ⟨Fs, k1, k2, k3, k4, k5⟩ := h1.ex
    have hs := h1.below.size
    have t := hj.2
    refine ⟨h1.below.trans (t.below hs fun x hx => (h1.ext x (.inl hx)).2), fun x hx => ?_, Fs, fun i x hx => (k1 i x hx).touch t fun b hb hg => k4 i b hb (.inl hg), fun i x hx => ⟨(k2 i x hx).1, Nat.lt_of_lt_of_le (k2 i x hx).2 t.size⟩, k3, fun i x hx hE => ?_, k5⟩
    · rcases hx with (hx | hx) | hx
      · exact ⟨Nat.lt_of_lt_of_le (h1.ext x (.inl hx)).1 t.size, (h1.ext x (.inl hx)).2⟩
      · exact ⟨hx.2, by omega⟩
      · exact ⟨Nat.lt_of_lt_of_le (hlt x hx) t.size, (h1.ext x (.inr hx)).2⟩
    · rcases hE with (hE | hE) | hE
      · exact k4 i x hx (.inl hE)
      · have := (k2 i x hx).2; omega
      · exact k4 i x hx (.inr hE)
  · rcases hx with hx | hx
    · exact h3 x hx hB
    · have := hlt x hB; omega
/-- it goes on with its copy -/
theorem Own.drop {w a : World} {E : Nat → Prop} {x : Nat × D} {L : List (Nat × D)} (h : Own w a E (x :: L)) : Own w a E L := by
  obtain ⟨Fs, h1, h2, h3, h4, h5⟩ := h.ex
  exact ⟨h.below, h.ext, fun i => Fs (i + 1), fun i y hy => h1 (i + 1) y (by simpa using hy), fun i b hb => h2 (i + 1) b hb, fun i j b hij => h3 (i + 1) (j + 1) b (by omega), fun i b => h4 (i + 1) b, fun i b hb => by have := h5 (i + 1) b hb; simp at this; omega⟩

end Go.Proofs.Ytehfclgngkhcpaa.Disk
