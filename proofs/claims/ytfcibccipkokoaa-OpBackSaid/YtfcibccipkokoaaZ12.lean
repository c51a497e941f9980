/-
  Walks: who writes what he is handed.
  Walks: a list of ops, as bytes.
  Walks: who answers what he reads.
  Plain mathematics: what the reader reads is what the document's reads, unless something is wanting.
  Walks: a list of ops that is read.
-/
import Derived.Lib.AppendStr
import Derived.Test.YtfcibccipkokoaaShelf
import Derived.Test.YtfcibccipkokoaaZ8
import Derived.Test.YtfcibccipkokoaaZ11
import Derived.Test.YtfcibccipkokoaaZ9
namespace Go.Proofs.Ytfcibccipkokoaa.Op
open Go.RowKit
open Go.Proofs.Ytfcibccipkokoaa.By
attribute [local go_sem ↓] Go.wp_at_zero Go.wp_at_succ

def u8v (b : UInt8) : Value := .int .u8 b.toNat
/-- the writer in block h has these bytes -/
structure Wr (B : Nat) (w : World) (h : Nat) (bs : List UInt8) : Prop where
  box : ∃ v, w.heap[h]? = some (.cells #[v] 70 (0, 0)) ∧ w.ownsRow B 5 1 v bs.length (bs.map u8v)
  ge : B ≤ h
theorem infoU : (Try.prog.info? 5).map (fun i => (i.zero, i.size, i.bytes)) = some (some (.int .u8 0), 1, 1) := by kernel_rfl
theorem own_shape {w : World} {B : Nat} {e : TypeId} {k n : Nat} {v : Value} {xs : List Value} (h : w.ownsRow B e k v n xs) : ∃ a c, v = .slice a n c := by
  rcases h.2 with ⟨rfl, rfl⟩ | ⟨g, cap, cur, rfl, _⟩
  · exact ⟨_, _, rfl⟩
  · exact ⟨_, _, rfl⟩
theorem own_keep {w w' : World} {B : Nat} {e : TypeId} {k n : Nat} {v : Value} {xs : List Value} (h : w.ownsRow B e k v n xs) (hk : ∀ (g : Nat) (cs : Array Value), w.heap[g]? = some (.cells cs e (0, 0)) → w'.heap[g]? = some (.cells cs e (0, 0))) : w'.ownsRow B e k v n xs := by
  refine ⟨h.1, h.2.imp id ?_⟩
  rintro ⟨g, cap, cur, rfl, h1, h2, h3⟩
  exact ⟨g, cap, cur, rfl, h1, hk g cur h2, h3⟩
theorem Wr.keep {B : Nat} {w w' : World} {h : Nat} {bs : List UInt8} (W : Wr B w h bs) {T : TypeId → Bool} (k : Only B T w w') (h1 : T 70 = false) (h2 : T 5 = false) : Wr B w' h bs := by
  obtain ⟨v, hb, ho⟩ := W.box
  exact ⟨⟨v, k.keep hb h1, own_keep ho fun g cs hg => k.keep hg h2⟩, W.ge⟩
theorem Wr.app {B : Nat} {w w' : World} {h : Nat} {bs : List UInt8} {v v' : Value} {s : ByteArray} (hb : w.heap[h]? = some (.cells #[v] 70 (0, 0))) (ho : w.ownsRow B 5 1 v bs.length (bs.map u8v)) (ge : B ≤ h) (o' : w'.ownsRow B 5 1 v' (bs.length + s.size) (bs.map u8v ++ Lib.strCells s)) (g' : w.grownBy w' v.ownBlock) :
    w'.cell? ⟨h, 0, none⟩ = some v ∧ w'.frozen? ⟨h, 0, none⟩ = false ∧ Wr B (w'.setCell ⟨h, 0, none⟩ v') h (bs ++ L s) ∧ Only B tcar w (w'.setCell ⟨h, 0, none⟩ v') := by
  have hl := (Array.getElem?_eq_some_iff.1 hb).1
  have hne : ∀ g, v.ownBlock = some g → g ≠ h ∧ B ≤ g ∧ ∃ cs, w.heap[g]? = some (.cells cs 5 (0, 0)) := by
    intro g hg
    rcases ho.2 with ⟨rfl, _⟩ | ⟨g2, cap, cur, rfl, h1, h2, _⟩
    · simp [Value.ownBlock] at hg
    · simp only [Value.ownBlock, Option.some.injEq] at hg
      subst hg
      refine ⟨?_, h1, cur, h2⟩
      rintro rfl
      rw [hb] at h2
      simp at h2
  have hb' : w'.heap[h]? = some (.cells #[v] 70 (0, 0)) := (g'.block h hl (fun e => (hne h e.symm).1 rfl)).trans hb
  have hne' : ∀ (g : Nat) (cs : Array Value), w'.heap[g]? = some (.cells cs 5 (0, 0)) → g ≠ h := by
    rintro g cs h2 rfl
    rw [hb'] at h2
    simp at h2
  refine ⟨by rw [cell_of_row _ _ _ _ _ _ hb']; rfl, frozen_of_row _ _ _ _ _ hb', ⟨⟨v', by rw [heap_setCell_same _ _ _ _ _ _ hb']; rfl, ?_⟩, ge⟩, ?_⟩
  · rw [List.length_append, List.map_append]
    exact own_keep o' fun g cs hg => by rw [heap_setCell_other _ _ _ _ (hne' g cs hg)]; exact hg
  · have k1 : Only B tcar w w' := ⟨g'.os, g'.tape, g'.output, g'.size, fun b hb2 hn => g'.block b hb2 (fun e => by
      obtain ⟨_, h1, cs, h2⟩ := hne b e.symm
      rcases hn with hn | hn
      · omega
      · have := hn _ _ _ h2; cases this)⟩
    exact k1.trans (Only.set hb' ge rfl _ _)
/-- more bytes -/
theorem nb_small (n m : Nat) : (nb m n).size = m := nb_size m n

set_option maxRecDepth 100000 in
set_option maxHeartbeats 1000000 in
theorem wnum_any {B : Nat} {w : World} {h : Nat} {bs : List UInt8} (W : Wr B w h bs) {n m : Nat} (hm : m = 1 ∨ m = 2 ∨ m = 4) (hn : n < 256 ^ m) (hl : bs.length + m ≤ 1000000) :
    Calls Try.prog 31 #[.pointer (some ⟨h, 0, none⟩), .int .u64 (n : Int), .int .i64 (m : Int)] w fun e w' => e = .returned (.int .u64 (n : Int)) ∧ Wr B w' h (bs ++ be m n) ∧ Only B tcar w w' := by
  have hn64 : n ≤ 18446744073709551615 := by rcases hm with rfl | rfl | rfl <;> omega
  have K := Lib.hid (put_any (n : Int) (m : Int) w (show U64 _ by unfold U64; omega))
  rw [putS_nb (by omega) (by omega) hn] at K
  have z := Lib.hid (nb_small n m)
  have LE := Lib.hid (show L (nb m n) = be m n from L_nb m n)
  generalize nb m n = x at *
  generalize putB _ _ = b at *
  have WW := Lib.hid W
  have HL := Lib.hid hl
  obtain ⟨i0, hi, hz0, hz1, hz2⟩ := info_parts infoU
  have HI := Lib.hid hi; have Z0 := Lib.hid hz0; have Z1 := Lib.hid hz1; have Z2 := Lib.hid hz2
  clear hi hz0 hz1 hz2 hn hm hl W
  go_enter Try.func31, Try.ntmps31
  go_wp2_with fail
  refine K.out.mono ?_
  rintro e w1 ⟨rfl, b1⟩
  have W1 := Lib.hid (WW.out.keep (T := fun _ => false) (Only.ofNew b1) rfl rfl)
  obtain ⟨v, hb, ho⟩ := W1.out.box
  have HB := Lib.hid hb; have HO := Lib.hid ho; have U1 := Lib.hid (Only.ofNew (B := B) (T := tcar) b1)
  have c0 : w1.cell? ⟨h, 0, none⟩ = some v := by rw [cell_of_row _ _ _ _ _ _ hb]; rfl
  clear b1 hb ho K
  go_wp2_with (at_builtin; refine Lib.wpList_append_own_string _ rfl _ _ 41 9 rfl B 5 i0 Try.underlying41 Try.underlying9 HI.out Z0.out Z1.out Z2.out _ _ _ rfl HO.out _ rfl (by unfold maxLen; rw [z.out]; have := HL.out; omega) (by rw [z.out]; have := HL.out; omega) (by have := W1.out.ge; have := (Array.getElem?_eq_some_iff.1 HB.out).1; omega) ?_; intro v2 w2 o2 g2 _; have A2 := Lib.hid (Wr.app HB.out HO.out W1.out.ge o2 g2); obtain ⟨a2, c2, rfl⟩ := own_shape o2; have c3 := A2.out.1; have z3 := A2.out.2.1; clear c0 o2 g2)
  go_ret
  obtain ⟨_, _, x1, x2⟩ := A2.out
  rw [LE.out] at x1
  exact ⟨rfl, x1, U1.out.trans x2⟩

set_option maxRecDepth 100000 in
set_option maxHeartbeats 1000000 in
theorem wtext_any {B : Nat} {w : World} {h : Nat} {bs : List UInt8} (W : Wr B w h bs) {t : ByteArray} (ht : t.size ≤ 65535) (hl : bs.length + (2 + t.size) ≤ 1000000) :
    Calls Try.prog 158 #[.pointer (some ⟨h, 0, none⟩), .string t] w fun e w' => e = .returned (.string t) ∧ Wr B w' h (bs ++ tb t) ∧ Only B tcar w w' := by
  have K := Lib.hid (wnum_any W (n := t.size) (m := 2) (by decide) (by omega) (by omega))
  have w0 : IntKind.u64.wrap (t.size : Int) = (t.size : Int) := by rw [IntKind.wrap_u64]; omega
  have TB := Lib.hid (show bs ++ be 2 t.size ++ L t = bs ++ tb t by unfold tb; rw [List.append_assoc])
  have HL := Lib.hid (show (bs ++ be 2 t.size).length + t.size ≤ 1000000 by rw [List.length_append, be_length]; omega)
  generalize bs ++ be 2 t.size = bs2 at *
  have n1 : (t.size : Int) ≤ 65535 := by omega
  obtain ⟨i0, hi, hz0, hz1, hz2⟩ := info_parts infoU
  have HI := Lib.hid hi; have Z0 := Lib.hid hz0; have Z1 := Lib.hid hz1; have Z2 := Lib.hid hz2
  clear hi hz0 hz1 hz2 hl W
  go_enter Try.func158, Try.ntmps158
  go_wp2_with fail
  refine K.out.mono ?_
  rintro e w1 ⟨rfl, W1, u1⟩
  have W1 := Lib.hid W1
  obtain ⟨v, hb, ho⟩ := W1.out.box
  have HB := Lib.hid hb; have HO := Lib.hid ho; have U1 := Lib.hid u1
  have c0 : w1.cell? ⟨h, 0, none⟩ = some v := by rw [cell_of_row _ _ _ _ _ _ hb]; rfl
  clear u1 hb ho K w0
  go_wp2_with (at_builtin; refine Lib.wpList_append_own_string _ rfl _ _ 41 9 rfl B 5 i0 Try.underlying41 Try.underlying9 HI.out Z0.out Z1.out Z2.out _ _ _ rfl HO.out _ rfl (by unfold maxLen; have := HL.out; omega) (by have := HL.out; omega) (by have := W1.out.ge; have := (Array.getElem?_eq_some_iff.1 HB.out).1; omega) ?_; intro v2 w2 o2 g2 _; have A2 := Lib.hid (Wr.app HB.out HO.out W1.out.ge o2 g2); obtain ⟨a2, c2, rfl⟩ := own_shape o2; have c3 := A2.out.1; have z3 := A2.out.2.1; clear c0 o2 g2)
  go_ret
  obtain ⟨_, _, x1, x2⟩ := A2.out
  rw [TB.out] at x1
  exact ⟨rfl, x1, U1.out.trans x2⟩

/-- the writer in block h, as who carries -/
def wCar (B h : Nat) : Car (List UInt8) where
  t := 74
  x := .pointer (some ⟨h, 0, none⟩)
  fn := 31
  ft := 158
  B := B
  num := fun s n m => (n, s ++ be m n)
  txt := fun s t => (t, s ++ tb t)
  room := fun s k => s.length + k ≤ 1000000
  inv := fun w s => Wr B w h s
theorem tb_size (t : ByteArray) : (tb t).length = 2 + t.size := by unfold tb; rw [List.length_append, be_length, L_len]
set_option maxRecDepth 100000 in
theorem wCar_ok (B h : Nat) : (wCar B h).Ok where
  mn := fun w => by kernel_rfl
  mt := fun w => by kernel_rfl
  nn := fun w => by kernel_rfl
  nt := fun w => by kernel_rfl
  en := ⟨_, Try.func31, by kernel_rfl, by kernel_rfl⟩
  et := ⟨_, Try.func158, by kernel_rfl, by kernel_rfl⟩
  lt := fun _ _ _ h => h
  tl := fun _ _ h => h
  rl := fun s a b hab hr => by have hr' : s.length + b ≤ 1000000 := hr; show s.length + a ≤ 1000000; omega
  rn := fun s n m k hr => by have hr' : s.length + (m + k) ≤ 1000000 := hr; show (s ++ be m n).length + k ≤ 1000000; rw [List.length_append, be_length]; omega
  rt := fun s t k hr => by have hr' : s.length + (2 + t.size + k) ≤ 1000000 := hr; show (s ++ tb t).length + k ≤ 1000000; rw [List.length_append, tb_size]; omega
  keep := fun w w' s W k => Wr.keep W k rfl rfl
  cn := fun w s n m W hr hm hn => wnum_any W hm hn hr
  ct := fun w s t W hr ht => wtext_any W ht hr

end Go.Proofs.Ytfcibccipkokoaa.Op

namespace Go.Proofs.Ytfcibccipkokoaa.Op
open Go.RowKit
open Go.Proofs.Ytfcibccipkokoaa.Seq (strS Is)
open Go.Proofs.Ytfcibccipkokoaa.By
attribute [local go_sem ↓] Go.wp_at_zero Go.wp_at_succ

theorem txts_w (B h : Nat) : ∀ (l : List ByteArray) (s : List UInt8), txts (wCar B h) l s = (l, s ++ l.flatMap tb) := by
  intro l
  induction l with
  | nil => intro s; simp [txts]
  | cons t l ih =>
    intro s
    show (t :: (txts (wCar B h) l (s ++ tb t)).1, (txts (wCar B h) l (s ++ tb t)).2) = _
    rw [ih, List.flatMap_cons, List.append_assoc]
theorem rows_w (B h : Nat) (l : List ByteArray) (s : List UInt8) : rowsC (wCar B h) s l = (l, s ++ (be 2 l.length ++ l.flatMap tb)) := by
  show txts (wCar B h) (fitTo l.length l) (s ++ be 2 l.length) = _
  rw [fitTo_same, txts_w, List.append_assoc]
theorem whol_w (B h : Nat) {o : O} (hm : May o) (s : List UInt8) : (whol (wCar B h) o s).2 = s ++ bytes o := by
  have hn : ∀ s n m, ((wCar B h).num s n m) = (n, s ++ be m n) := fun _ _ _ => rfl
  have ht : ∀ s t, ((wCar B h).txt s t) = (t, s ++ tb t) := fun _ _ => rfl
  have hr := rows_w B h
  have k1 := hm.k1
  have k8 := hm.k8
  clear hm
  unfold whol thru bytes tail
  simp only [hn, ht, hr]
  repeat' split
  all_goals first | (exfalso; omega) | simp only [List.append_assoc]
theorem cost_tb (l : List ByteArray) : cost l = (l.flatMap tb).length := by rw [tb_len]; rfl
theorem rm_w (B h : Nat) {o : O} (hm : May o) {s : List UInt8} (hs : s.length ≤ 900000) : Rm (wCar B h) o s := by
  have h1 := hm.tt
  have h2 := hm.rl
  refine ⟨?_, ?_, ?_⟩
  · show s.length + 6 ≤ 1000000
    omega
  · show s.length + (4 + (2 + o.text.size)) ≤ 1000000
    omega
  · show (s ++ be 2 o.rows.length).length + cost (fitTo o.rows.length o.rows) ≤ 1000000
    rw [fitTo_same, List.length_append, be_length]
    unfold cost
    omega
theorem fit_may {w : World} {o : O} {u : Value} (h : In w o u) (m : May o) : Fit o := fit_of h ⟨m.a0, m.a1⟩ ⟨m.o0, m.o1⟩ m.rl m.tt
/-- what the writer has, as a text -/
theorem Wr.out {B : Nat} {w : World} {h : Nat} {bs : List UInt8} (W : Wr B w h bs) (hne : bs ≠ []) :
    ∃ v, w.cell? ⟨h, 0, none⟩ = some v ∧ (∃ a n c, v = .slice a n c) ∧ (convert 41 9 v).run Try.prog w = .ok (.string (T bs)) w := by
  obtain ⟨v, hb, ho⟩ := W.box
  refine ⟨v, by rw [cell_of_row _ _ _ _ _ _ hb]; rfl, ?_, ?_⟩
  · obtain ⟨a, c, e⟩ := own_shape ho
    exact ⟨a, _, c, e⟩
  · rcases ho.2 with ⟨_, h0⟩ | ⟨g, cap, cur, rfl, h1, h2, h3, h4, h5, h6⟩
    · exact absurd (List.eq_nil_of_length_eq_zero h0) hne
    · refine run_convert_bytes_back (P := Try.prog) w 41 9 5 ⟨g, 0, none⟩ cap bs Try.underlying41 Try.underlying5 Try.underlying9 ?_
      intro j hj
      rw [Addr.add_mid, Nat.zero_add, cell_of_row w g j cur _ _ h2]
      rw [Nat.mul_one] at h6
      have h7 : (cur.toList.take bs.length)[j]? = (bs.map u8v)[j]? := by rw [h6]
      rw [List.getElem?_take, if_pos hj, List.getElem?_map, List.getElem?_eq_getElem hj] at h7
      rw [← Array.getElem?_toList, h7]
      rfl
/-- the writer, as it begins -/
theorem Wr.start (w : World) (hs : w.heap.size ≤ w.heap.size) : Wr w.heap.size (w.alloc (.cells #[.slice none 0 0] 70)) w.heap.size [] :=
  ⟨⟨_, heap_alloc_new _ _, World.ownsRow_nil _ _ _ _⟩, hs⟩

set_option maxRecDepth 100000 in
set_option maxHeartbeats 4000000 in
theorem cencode_all {w : World} {l : List O} {v : Value} (h : Ops w v l) : Calls Try.prog 10 #[v] w fun e w' => e = .returned (.tuple #[.string (encS l), .int .i64 (encE l : Int)]) ∧ Below w.heap.size w w' := by
  obtain ⟨ad, c, rfl⟩ := h.shape
  have H := Lib.hid h
  clear h
  by_cases h32 : 32 < l.length
  · have e1 : encE l = 5 := by unfold encE; rw [if_pos h32]
    have e2 : encS l = ⟨#[]⟩ := by unfold encS; rw [e1, if_neg (by decide)]
    rw [e1, e2]
    clear e1 e2 H
    go_enter Try.func10, Try.ntmps10
    go_wp2_with fail
    go_ret2
    exact ⟨rfl, Below.refl _ _⟩
  have BE := Lib.hid (fun k (hk : k < l.length) hm => bad_enc h32 hk hm)
  have GE := Lib.hid (fun (hm : ∀ o ∈ l, May o) => enc_yes (by omega) hm)
  have GS := Lib.hid (show encE l = 0 → encS l = T (be 1 l.length ++ l.flatMap bytes) from fun e => L_ext (by rw [(enc_ok e).2.2]; rfl))
  have h1 : l.length < 256 := by omega
  have W0 := Lib.hid (Wr.start w (Nat.le_refl _))
  have N1 := Lib.hid (show Calls Try.prog 31 #[.pointer (some ⟨w.heap.size, 0, none⟩), .int .u64 (l.length : Int), .int .i64 1] _ _ from wnum_any W0.out (n := l.length) (m := 1) (by decide) (by omega) (by simp))
  have w0 : IntKind.u64.wrap (l.length : Int) = (l.length : Int) := by rw [IntKind.wrap_u64]; omega
  obtain ⟨m, hm⟩ : ∃ m, m = l.length := ⟨_, rfl⟩
  have M := Lib.hid hm.symm
  rw [← hm] at N1 h32 w0 h1 GS ⊢
  have B0 := Lib.hid (below_new w (.cells #[.slice none 0 0] 70))
  clear hm W0
  go_enter Try.func10, Try.ntmps10
  go_wp2_with fail
  refine N1.out.mono ?_
  rintro e w1 ⟨rfl, r1, u1⟩
  rw [List.nil_append] at r1
  have B1 := Lib.hid (B0.out.trans (u1.below (by simp)))
  have R1 := Lib.hid r1
  clear u1 N1 r1 B0
  have BE1 := Lib.hid (be_length 1 m)
  generalize be 1 m = p at *
  go_wp2_with fail
  obtain ⟨wz, hwz⟩ : ∃ wz, wz = w1 := ⟨_, rfl⟩
  rw [← hwz] at R1 B1 ⊢
  clear hwz
  go_loopw [17] (fun i wr => ∃ k : Nat, k ≤ m ∧ i = .int .i64 k ∧ ((l.take k).flatMap bytes).length ≤ 2000 * k ∧ (∀ j (hj : j < l.length), j < k → May l[j]) ∧ Below w.heap.size w wr ∧ Wr w.heap.size wr w.heap.size (p ++ (l.take k).flatMap bytes)) (fun i _ => m - (intOf i).toNat)
  case atStart => exact ⟨0, by omega, by go_num, by simp, fun j _ hj => by omega, B1.out, by simpa using R1.out⟩
  case round =>
    obtain ⟨k, hk, rfl, hz, hy, hb, hW⟩ := hrel
    have B := Lib.hid hb
    have Y := Lib.hid hy
    have WW := Lib.hid hW
    clear hb hy hW B1 R1
    by_cases hlt : k < m
    · have hkl : k < l.length := by rw [M.out]; exact hlt
      obtain ⟨u, b, o, rfl, hi, ho⟩ := H.out.nine hkl
      have I0 := Lib.hid hi
      have I := Lib.hid (hi.later B.out)
      obtain ⟨a0, a1, a2, a3, a4, a5, a6, a7, a8, _⟩ := ho.later B.out
      have BK := Lib.hid (BE.out k hkl)
      have NX := Lib.hid (show p ++ (l.take k).flatMap bytes ++ bytes l[k] = p ++ (l.take (k + 1)).flatMap bytes by rw [List.take_succ_eq_append_getElem hkl, List.flatMap_append]; simp only [List.flatMap_cons, List.flatMap_nil, List.append_nil, List.append_assoc])
      have NZ := Lib.hid (show May l[k] → ((l.take (k + 1)).flatMap bytes).length ≤ 2000 * (k + 1) from fun hm => by rw [List.take_succ_eq_append_getElem hkl, List.flatMap_append, List.length_append]; simp only [List.flatMap_cons, List.flatMap_nil, List.append_nil]; have := bytes_le hm; omega)
      have YN := Lib.hid (show May l[k] → ∀ j (hj : j < l.length), j < k + 1 → May l[j] from fun hm j hj h2 => by
        by_cases e : j = k
        · subst e; exact hm
        · exact Y.out j hj (by omega))
      have QL := Lib.hid (show (p ++ (l.take k).flatMap bytes).length ≤ 800000 by rw [List.length_append, BE1.out]; omega)
      clear hi ho Y hz BE1
      generalize l[k] = X at *
      generalize p ++ (l.take k).flatMap bytes = Q at *
      obtain ⟨ua, uc, hu⟩ := I0.out.rows.shape
      obtain ⟨un, hun⟩ : ∃ un, un = X.rows.length := ⟨_, rfl⟩
      rw [← hun] at hu
      subst hu
      clear hun
      have T1 := Lib.hid (Bx.start wr X (.slice ua un uc))
      have KM := Lib.hid (cmay_all (I.out.later T1.out.below))
      have WW1 := Lib.hid (WW.out.keep (T := fun _ => false) (Only.ofNew T1.out.below) rfl rfl)
      unfold oV oC at KM
      unfold oC at T1 WW1
      clear WW
      go_upto_region 8 with fail
      clear a0 a1 a2 a3 a4 a5 a6 a7 a8
      generalize hg : wr.heap.size = g at *
      generalize wr.alloc _ = wq at *
      obtain ⟨a0, a1, a2, a3, a4, a5, a6, a7, a8⟩ := T1.out.nine
      by_cases hm : May X
      · rw [decide_eq_true hm] at KM
        have HM := Lib.hid hm
        have NZ1 := Lib.hid (NZ.out hm)
        have YN1 := Lib.hid (YN.out hm)
        clear NZ YN BK hm
        go_wp2_with fail
        refine KM.out.mono ?_
        rintro e w2 ⟨rfl, b2⟩
        have T2 := Lib.hid (T1.out.later b2)
        have W2 := Lib.hid (WW1.out.keep (T := fun _ => false) (Only.ofNew b2) rfl rfl)
        clear b2 a0 a1 a2 a3 a4 a5 a6 a7 a8 T1 WW1 KM
        obtain ⟨a0, a1, a2, a3, a4, a5, a6, a7, a8⟩ := T2.out.nine
        have n3 := below_new w2 (.cells (oC X (.slice ua un uc)) 72)
        have hbase : w.heap.size ≤ wr.heap.size := B.out.size
        have B3 := Lib.hid ((B.out.trans (T2.out.below.mono hbase)).trans (n3.mono (Nat.le_trans hbase T2.out.below.size)))
        have X3 := Lib.hid (⟨heap_alloc_new _ _, Nat.le_trans hbase T2.out.below.size, fit_may I0.out HM.out, rk_of I0.out.rows _ B3.out⟩ : Pb w.heap.size (w2.alloc (.cells (oC X (.slice ua un uc)) 72)) w2.heap.size X (.slice ua un uc))
        have W3 := Lib.hid (W2.out.keep (T := fun _ => false) (Only.ofNew n3) rfl rfl)
        clear n3
        have KW := Lib.hid (show Calls Try.prog 32 #[.pointer (some ⟨w2.heap.size, 0, none⟩), .iface 74 (.pointer (some ⟨w.heap.size, 0, none⟩))] _ _ from whole_any (C := wCar w.heap.size w.heap.size) (wCar_ok _ _) W3.out X3.out (whole_chain (wCar_ok _ _) (show Q.length + 5 ≤ 1000000 by have := QL.out; omega) (rm_w _ _ HM.out (show (Q ++ be 1 X.kind ++ be 4 X.page).length ≤ 900000 by have := QL.out; rw [List.length_append, List.length_append, be_length, be_length]; omega))))
        rw [whol_w _ _ HM.out] at KW
        clear W2 W3 X3
        unfold oC at KW B3
        go_wp2_with fail
        refine KW.out.mono ?_
        rintro e w4 ⟨rfl, i4, _, k4⟩
        have B4 := Lib.hid (B3.out.trans (k4.below B3.out.size))
        have W4 := Lib.hid (show Wr w.heap.size w4 w.heap.size (Q ++ bytes X) from i4)
        rw [NX.out] at W4
        clear i4 k4 KW B3 a0 a1 a2 a3 a4 a5 a6 a7 a8 T2
        go_wp2_with fail
        go_roundw
        case rel => exact ⟨k + 1, by omega, by go_num, NZ1.out, YN1.out, B4.out, W4.out⟩
        case measure => simp [intOf]; omega
      · rw [decide_eq_false hm] at KM
        obtain ⟨f1, f2⟩ := BK.out hm
        have F := Lib.hid (And.intro f1 f2)
        have hbase : w.heap.size ≤ wr.heap.size := B.out.size
        have B2 := Lib.hid (B.out.trans (T1.out.below.mono hbase))
        clear f1 f2 NZ YN BK hm BE WW1
        go_wp2_with fail
        refine KM.out.mono ?_
        rintro e w2 ⟨rfl, b2⟩
        have B3 := Lib.hid (B2.out.trans (b2.mono B2.out.size))
        clear b2 a0 a1 a2 a3 a4 a5 a6 a7 a8 T1 KM
        go_wp2_with fail
        go_ret2
        exact ⟨by rw [F.out.1, F.out.2]; rfl, B3.out⟩
    · have hkk : k = l.length := by rw [M.out]; omega
      have g0 := GE.out (fun x hx => by
        obtain ⟨j, hj, rfl⟩ := List.getElem_of_mem hx
        exact Y.out j hj (by omega))
      have g1 := GS.out g0
      have F := Lib.hid (And.intro g0 g1)
      have et : l.take k = l := List.take_of_length_le (by omega)
      rw [et] at WW
      obtain ⟨v, c0, ⟨va, vn, vc, rfl⟩, hv⟩ := WW.out.out (by intro e; have := congrArg List.length e; rw [List.length_append, BE1.out] at this; simp at this)
      clear g0 g1 hz hkk et
      go_wp2_with fail
      go_ret2
      exact ⟨by rw [F.out.1, F.out.2]; rfl, B.out⟩

end Go.Proofs.Ytfcibccipkokoaa.Op

namespace Go.Proofs.Ytfcibccipkokoaa.Op
open Go.RowKit
open Go.Proofs.Ytfcibccipkokoaa.By
attribute [local go_sem ↓] Go.wp_at_zero Go.wp_at_succ

theorem clone_any (s : ByteArray) (w : World) (hs : s.size ≤ 281474976710656) :
    Calls Try.prog 77 #[.string s] w fun e w' => e = .returned (.string s) ∧ Below w.heap.size w w' := by
  go_enter Try.func77, Try.ntmps77
  go_wp2_with (go_at_call 112; refine (Try.stringslite_Clone _ _ hs).mono ?_; rintro e w' ⟨rfl, hb⟩)
  go_ret
  exact ⟨rfl, hb⟩
/-- n bytes from a on; none, unless all are there -/
def ctS (s : ByteArray) (a n : Nat) : ByteArray := if a + n ≤ s.size then s.extract a (a + n) else ⟨#[]⟩
def ctB (s : ByteArray) (a n : Nat) : Bool := decide (a + n ≤ s.size)
def ctN (s : ByteArray) (a n : Nat) : Nat := if a + n ≤ s.size then numAt s a n else 0
theorem ctS_le (s : ByteArray) (a n : Nat) : (ctS s a n).size ≤ n ∧ (a ≤ s.size → a + (ctS s a n).size ≤ s.size) := by
  unfold ctS
  split
  · rw [ByteArray.size_extract]; omega
  · exact ⟨Nat.zero_le _, fun h => h⟩
set_option maxRecDepth 100000 in
theorem cut_any (s : ByteArray) (t n : Nat) (w : World) (hs : s.size ≤ 140737488351232) (ht : t ≤ s.size) (hn : n ≤ 140737488351232) :
    Calls Try.prog 82 #[.string s, .int .i64 (t : Int), .int .i64 (n : Int)] w fun e w' => e = .returned (.tuple #[.string (ctS s t n), .bool (ctB s t n)]) ∧ Below w.heap.size w w' := by
  by_cases h : t + n ≤ s.size
  · have hb : hasB s.size (t : Int) (n : Int) = true := by unfold hasB; rw [decide_eq_true_iff]; omega
    have e1 : ctS s t n = s.extract t (t + n) := by unfold ctS; rw [if_pos h]
    have e2 : ctB s t n = true := by unfold ctB; rw [decide_eq_true h]
    have H := has_any s t n w (by unfold maxLen; omega) (by omega)
    rw [hb] at H
    rw [e1, e2]
    have HH := Lib.hid H
    have HC := Lib.hid (fun W => clone_any (s.extract t (t + n)) W (by rw [ByteArray.size_extract]; omega))
    clear hb e1 e2 H
    go_enter Try.func82, Try.ntmps82
    go_wp2_with fail
    refine HH.out.mono ?_
    rintro e w1 ⟨rfl, rfl⟩
    go_wp2_with fail
    refine (HC.out _).mono ?_
    rintro e w1 ⟨rfl, b⟩
    go_wp2_with fail
    go_ret2
    exact ⟨rfl, b⟩
  · have hb : hasB s.size (t : Int) (n : Int) = false := by unfold hasB; rw [decide_eq_false_iff_not]; omega
    have e1 : ctS s t n = ⟨#[]⟩ := by unfold ctS; rw [if_neg h]
    have e2 : ctB s t n = false := by unfold ctB; rw [decide_eq_false h]
    have H := has_any s t n w (by unfold maxLen; omega) (by omega)
    rw [hb] at H
    rw [e1, e2]
    have HH := Lib.hid H
    clear hb e1 e2 H
    go_enter Try.func82, Try.ntmps82
    go_wp2_with fail
    refine HH.out.mono ?_
    rintro e w1 ⟨rfl, rfl⟩
    go_wp2_with fail
    go_ret2
    exact ⟨rfl, Below.refl _ _⟩
theorem ct_get {s : ByteArray} {t n : Nat} (w : World) (_hs : s.size ≤ 140737488351232) (h1 : 1 ≤ n) (h8 : n ≤ 8) :
    Calls Try.prog 63 #[.string (ctS s t n), .int .i64 0, .int .i64 (n : Int)] w fun e w' => e = .returned (.tuple #[.int .u64 (ctN s t n : Int), .bool (getB (ctS s t n) 0 n)]) ∧ w = w' := by
  have hz : (ctS s t n).size ≤ 140737488351232 := by
    unfold ctS
    split
    · rw [ByteArray.size_extract]; omega
    · exact Nat.zero_le _
  have := get_any (ctS s t n) 0 (n : Int) w (by omega) (by omega)
  have e : getN (ctS s t n) 0 n = (ctN s t n : Int) := by
    unfold getN getB hasB mayB ctS ctN
    by_cases h : t + n ≤ s.size
    · rw [if_pos h, if_pos h, if_pos]
      · have := numAt_part s t n n h (Nat.le_refl _)
        show ((numAt (s.extract t (t + n)) 0 n : Nat) : Int) = _
        rw [this]
      · simp only [Bool.and_eq_true, decide_eq_true_eq, ByteArray.size_extract]
        omega
    · rw [if_neg h, if_neg h, if_neg]
      · rfl
      · have : (⟨#[]⟩ : ByteArray).size = 0 := rfl
        simp only [Bool.and_eq_true, decide_eq_true_eq, this]
        omega
  rw [e] at this
  exact this

/-- the reader in block h: of what, where, whether something was wanting -/
structure Rr (B : Nat) (w : World) (h : Nat) (s : ByteArray) (a : Nat) (b : Bool) : Prop where
  box : w.heap[h]? = some (.cells #[.string s, .int .i64 (a : Int), .bool b] 76 (0, 0))
  ge : B ≤ h
  le : a ≤ s.size
  size : s.size ≤ 100000
section
variable {B : Nat} {w w' : World} {h : Nat} {s : ByteArray} {a : Nat} {b : Bool}
theorem Rr.keep (R : Rr B w h s a b) {T : TypeId → Bool} (k : Only B T w w') (h1 : T 76 = false) : Rr B w' h s a b := ⟨k.keep R.box h1, R.ge, R.le, R.size⟩
theorem Rr.three (R : Rr B w h s a b) : w.cell? ⟨h, 0, none⟩ = some (.string s) ∧ w.cell? ⟨h, 1, none⟩ = some (.int .i64 (a : Int)) ∧ w.cell? ⟨h, 2, none⟩ = some (.bool b) := by
  refine ⟨?_, ?_, ?_⟩ <;> (rw [cell_of_row _ _ _ _ _ _ R.box]; rfl)
theorem Rr.free (R : Rr B w h s a b) (j : Nat) : w.frozen? ⟨h, j, none⟩ = false := frozen_of_row _ _ _ _ _ R.box
theorem Rr.at (R : Rr B w h s a b) {a' : Nat} (ha : a' ≤ s.size) : Rr B (w.setCell ⟨h, 1, none⟩ (.int .i64 (a' : Int))) h s a' b ∧ Only B tcar w (w.setCell ⟨h, 1, none⟩ (.int .i64 (a' : Int))) :=
  ⟨⟨by rw [heap_setCell_same _ _ _ _ _ _ R.box]; rfl, R.ge, ha, R.size⟩, Only.set R.box R.ge rfl _ _⟩
theorem Rr.short (R : Rr B w h s a b) (b' : Bool) : Rr B (w.setCell ⟨h, 2, none⟩ (.bool b')) h s a b' ∧ Only B tcar w (w.setCell ⟨h, 2, none⟩ (.bool b')) :=
  ⟨⟨by rw [heap_setCell_same _ _ _ _ _ _ R.box]; rfl, R.ge, R.le, R.size⟩, Only.set R.box R.ge rfl _ _⟩

set_option maxRecDepth 100000 in
set_option maxHeartbeats 1000000 in
theorem take_any (R : Rr B w h s a b) {n : Nat} (hn : n ≤ 65535) :
    Calls Try.prog 64 #[.pointer (some ⟨h, 0, none⟩), .int .i64 (n : Int)] w fun e w' => e = .returned (.string (ctS s a n)) ∧ Rr B w' h s (a + (ctS s a n).size) (b || !ctB s a n) ∧ Only B tcar w w' := by
  have K := Lib.hid (fun W => cut_any s a n W (by have := R.size; omega) R.le (by omega))
  have CL := Lib.hid (ctS_le s a n)
  have RR := Lib.hid R
  have hal := R.le
  have hss := R.size
  generalize ctS s a n = x at *
  generalize ctB s a n = c at *
  have z1 : a + x.size ≤ s.size := CL.out.2 hal
  have Z1 := Lib.hid z1
  have T := Lib.hid (fun (W : World) (Y : Rr B W h s a b) => (⟨Y.three.1, Y.three.2.1⟩ : W.cell? ⟨h, 0, none⟩ = some (.string s) ∧ W.cell? ⟨h, 1, none⟩ = some (.int .i64 (a : Int))))
  have c0 := T.out w R
  have wa : IntKind.i64.wrap ((a : Int) + (x.size : Int)) = (a : Int) + (x.size : Int) := by rw [IntKind.wrap_i64]; omega
  clear R CL
  go_enter Try.func64, Try.ntmps64
  go_upto_region 1 with fail
  refine wp_region_noPanic ?_
  refine wp_region_held_drew (S := fun W => W.cell? ⟨h, 0, none⟩ = some (.string s) ∧ W.cell? ⟨h, 1, none⟩ = some (.int .i64 (a : Int))) (by kernel_rfl) (by exact c0) (fun hHeld => ?_)
  refine wpAnyH_take (i := 0) (v := ?_) rfl (by kernel_rfl) (by kernel_rfl) (by kernel_rfl) (fun _ _ _ h => h) (Or.inl ⟨by rfl, ?_⟩) hHeld ?_
  rotate_left
  · (intro W hSw; (try dsimp only at hSw); go_simp; (try with_reducible rfl))
  simp only [List.getElem_toArray, List.getElem_cons_zero, Act.put, List.setIfInBounds_toArray, List.set_cons_zero, List.set_cons_succ]
  refine wpAnyH_take (i := 1) (v := ?_) rfl (by kernel_rfl) (by kernel_rfl) (by kernel_rfl) (fun _ _ _ h => h) (Or.inl ⟨by rfl, ?_⟩) hHeld ?_
  rotate_left
  · (intro W hSw; (try dsimp only at hSw); go_simp; (try with_reducible rfl))
  simp only [List.getElem_toArray, List.getElem_cons_succ, List.getElem_cons_zero, Act.put, List.setIfInBounds_toArray, List.set_cons_zero, List.set_cons_succ]
  refine wpAnyH_take (i := 2) (v := ?_) rfl (by kernel_rfl) (by kernel_rfl) (by kernel_rfl) (fun _ _ _ h => h) (Or.inl ⟨by rfl, ?_⟩) hHeld ?_
  rotate_left
  · (intro W hSw; (try dsimp only at hSw); go_simp; (try with_reducible rfl))
  simp only [List.getElem_toArray, List.getElem_cons_succ, List.getElem_cons_zero, Act.put, List.setIfInBounds_toArray, List.set_cons_zero, List.set_cons_succ]
  refine wpAnyH_take (i := 3) (v := ?_) rfl (by kernel_rfl) (by kernel_rfl) (by kernel_rfl) (fun _ _ _ h => h) (Or.inl ⟨by rfl, ?_⟩) hHeld ?_
  rotate_left
  · (intro W hSw; (try dsimp only at hSw); go_simp; (try with_reducible rfl))
  simp only [List.getElem_toArray, List.getElem_cons_succ, List.getElem_cons_zero, Act.put, List.setIfInBounds_toArray, List.set_cons_zero, List.set_cons_succ]
  refine wpAnyH_take (i := 4) (v := ?_) rfl (by kernel_rfl) (by kernel_rfl) (by kernel_rfl) (fun _ _ _ h => h) (Or.inl ⟨by rfl, ?_⟩) hHeld ?_
  rotate_left
  · (intro W hSw; (try dsimp only at hSw); go_simp; (try with_reducible rfl))
  simp only [List.getElem_toArray, List.getElem_cons_succ, List.getElem_cons_zero, Act.put, List.setIfInBounds_toArray, List.set_cons_zero, List.set_cons_succ]
  refine wpAnyH_take (i := 5) (v := ?_) rfl (by kernel_rfl) (by kernel_rfl) (by kernel_rfl) (fun _ _ _ h => h) (Or.inl ⟨by rfl, ?_⟩) hHeld ?_
  rotate_left
  · (intro W hSw; (try dsimp only at hSw); go_simp; (try with_reducible rfl))
  simp only [List.getElem_toArray, List.getElem_cons_succ, List.getElem_cons_zero, Act.put, List.setIfInBounds_toArray, List.set_cons_zero, List.set_cons_succ]
  refine wpAnyH_take (i := 6) (v := ?_) rfl (by kernel_rfl) (by kernel_rfl) (by kernel_rfl) (fun _ _ _ h => h) (Or.inl ⟨by rfl, ?_⟩) hHeld ?_
  rotate_left
  · (intro W hSw; (try dsimp only at hSw); go_simp; (try with_reducible rfl))
  simp only [List.getElem_toArray, List.getElem_cons_succ, List.getElem_cons_zero, Act.put, List.setIfInBounds_toArray, List.set_cons_zero, List.set_cons_succ]
  refine wpAnyH_take (i := 7) (v := ?_) rfl (by kernel_rfl) (by kernel_rfl) (by kernel_rfl) (fun _ _ _ h => h) (Or.inl ⟨by rfl, ?_⟩) hHeld ?_
  rotate_left
  · (intro W hSw; (try dsimp only at hSw); go_simp; (try with_reducible rfl))
  simp only [List.getElem_toArray, List.getElem_cons_succ, List.getElem_cons_zero, Act.put, List.setIfInBounds_toArray, List.set_cons_zero, List.set_cons_succ]
  refine wpAnyH_take (i := 8) (v := ?_) rfl (by kernel_rfl) (by kernel_rfl) (by kernel_rfl) (fun _ _ _ h => h) (Or.inl ⟨by rfl, ?_⟩) hHeld ?_
  rotate_left
  · (intro W hSw; (try dsimp only at hSw); go_simp; (try with_reducible rfl))
  simp only [List.getElem_toArray, List.getElem_cons_succ, List.getElem_cons_zero, Act.put, List.setIfInBounds_toArray, List.set_cons_zero, List.set_cons_succ]
  refine wpAnyH_ready (rs := [9]) (by kernel_rfl) (by simp) (AllReadyH.cons rfl (fun K2 hK => ?_) AllReadyH.nil)
  refine step_fn (by rfl) (.func 82) [.tmp 11, .tmp 15, .tmp 16] _ rfl 82 [] (by simp [Act.eval]) _ Try.func82 (by kernel_rfl) (by kernel_rfl) (K.out _) (by simp [Act.eval]) ?_
  rintro e w4 ⟨rfl, b4⟩
  refine ⟨_, rfl, ?_⟩
  have R4 := Lib.hid (RR.out.keep (T := fun _ => false) ((Only.refl _ _ _).drew.trans (Only.ofNew b4)) rfl)
  have U4 := Lib.hid (Only.trans (Only.refl B tcar w).drew (Only.ofNew b4))
  have c4 := T.out w4 R4.out
  clear c0 b4
  refine hK.out _ _ c4 (fun hHeld => ?_)
  clear hK K2
  simp only [List.getElem_toArray, List.getElem_cons_succ, List.getElem_cons_zero, Act.put, List.setIfInBounds_toArray, List.set_cons_zero, List.set_cons_succ]
  refine wpAnyH_take (i := 10) (v := ?_) rfl (by kernel_rfl) (by kernel_rfl) (by kernel_rfl) (fun _ _ _ h => h) (Or.inl ⟨by rfl, ?_⟩) hHeld ?_
  rotate_left
  · (intro W hSw; (try dsimp only at hSw); go_simp; (try with_reducible rfl))
  simp only [List.getElem_toArray, List.getElem_cons_succ, List.getElem_cons_zero, Act.put, List.setIfInBounds_toArray, List.set_cons_zero, List.set_cons_succ]
  refine wpAnyH_take (i := 11) (v := ?_) rfl (by kernel_rfl) (by kernel_rfl) (by kernel_rfl) (fun _ _ _ h => h) (Or.inl ⟨by rfl, ?_⟩) hHeld ?_
  rotate_left
  · (intro W hSw; (try dsimp only at hSw); go_simp; (try with_reducible rfl))
  simp only [List.getElem_toArray, List.getElem_cons_succ, List.getElem_cons_zero, Act.put, List.setIfInBounds_toArray, List.set_cons_zero, List.set_cons_succ]
  refine wpAnyH_take (i := 12) (v := ?_) rfl (by kernel_rfl) (by kernel_rfl) (by kernel_rfl) (fun _ _ _ h => h) (Or.inl ⟨by rfl, ?_⟩) hHeld ?_
  rotate_left
  · (intro W hSw; (try dsimp only at hSw); go_simp; (try with_reducible rfl))
  simp only [List.getElem_toArray, List.getElem_cons_succ, List.getElem_cons_zero, Act.put, List.setIfInBounds_toArray, List.set_cons_zero, List.set_cons_succ]
  refine wpAnyH_take (i := 13) (v := ?_) rfl (by kernel_rfl) (by kernel_rfl) (by kernel_rfl) (fun _ _ _ h => h) (Or.inl ⟨by rfl, ?_⟩) hHeld ?_
  rotate_left
  · (intro W hSw; (try dsimp only at hSw); go_simp; (try with_reducible rfl))
  simp only [List.getElem_toArray, List.getElem_cons_succ, List.getElem_cons_zero, Act.put, List.setIfInBounds_toArray, List.set_cons_zero, List.set_cons_succ]
  refine wpAnyH_take (i := 14) (v := ?_) rfl (by kernel_rfl) (by kernel_rfl) (by kernel_rfl) (fun _ _ _ h => h) (Or.inl ⟨by rfl, ?_⟩) hHeld ?_
  rotate_left
  · (intro W hSw; (try dsimp only at hSw); go_simp; (try with_reducible rfl))
  simp only [List.getElem_toArray, List.getElem_cons_succ, List.getElem_cons_zero, Act.put, List.setIfInBounds_toArray, List.set_cons_zero, List.set_cons_succ]
  refine wpAnyH_done (by kernel_rfl) ?_ _
  refine NoPanic.normal ?_
  clear hHeld c4 T K
  obtain ⟨q0, q1, q2⟩ := R4.out.three
  have f1 := R4.out.free 1
  have r5 := R4.out.at Z1.out
  rw [Int.natCast_add] at r5
  have R5 := Lib.hid r5; clear r5
  have R6 := Lib.hid (R5.out.1.short (b || !c))
  have U6 := Lib.hid (U4.out.trans (R5.out.2.trans R6.out.2))
  obtain ⟨p0, p1, p2⟩ := R5.out.1.three
  have f2 := R5.out.1.free 2
  clear z1
  cases b <;> cases c
  all_goals
    go_wp2_with fail
    go_ret
    exact ⟨rfl, R6.out.1, U6.out⟩

set_option maxRecDepth 100000 in
set_option maxHeartbeats 1000000 in
theorem rdnum_any (R : Rr B w h s a b) (n m : Nat) (hm : m = 1 ∨ m = 2 ∨ m = 4) :
    Calls Try.prog 33 #[.pointer (some ⟨h, 0, none⟩), .int .u64 (n : Int), .int .i64 (m : Int)] w fun e w' => e = .returned (.int .u64 (ctN s a m : Int)) ∧ Rr B w' h s (a + (ctS s a m).size) (b || !ctB s a m) ∧ Only B tcar w w' := by
  have K := Lib.hid (take_any R (n := m) (by omega))
  have hg := fun W => ct_get (s := s) (t := a) (n := m) W (by have := R.size; omega) (by omega) (by omega)
  have GG := Lib.hid hg
  have hlt : ctN s a m < 18446744073709551616 := by
    unfold ctN
    split
    · have := numAt_lt s a m
      rcases hm with rfl | rfl | rfl <;> omega
    · omega
  clear R hg
  generalize getB (ctS s a m) 0 m = b2 at *
  generalize ctS s a m = x at *
  generalize ctN s a m = y at *
  go_enter Try.func33, Try.ntmps33
  go_wp2_with fail
  refine K.out.mono ?_
  rintro e w1 ⟨rfl, r1, u1⟩
  have RU := Lib.hid (And.intro r1 u1)
  clear r1 u1
  go_wp2_with fail
  refine (GG.out _).mono ?_
  rintro e w2 ⟨rfl, rfl⟩
  go_wp2_with fail
  go_ret
  exact ⟨rfl, RU.out.1, RU.out.2⟩
set_option maxRecDepth 100000 in
set_option maxHeartbeats 1000000 in
theorem rdtext_any (R : Rr B w h s a b) (t : ByteArray) :
    Calls Try.prog 159 #[.pointer (some ⟨h, 0, none⟩), .string t] w fun e w' => e = .returned (.string (ctS s (a + (ctS s a 2).size) (ctN s a 2))) ∧ Rr B w' h s (a + (ctS s a 2).size + (ctS s (a + (ctS s a 2).size) (ctN s a 2)).size) (b || !ctB s a 2 || !ctB s (a + (ctS s a 2).size) (ctN s a 2)) ∧ Only B tcar w w' := by
  have K := Lib.hid (show Calls Try.prog 33 #[.pointer (some ⟨h, 0, none⟩), .int .u64 0, .int .i64 2] w _ from rdnum_any R 0 2 (by decide))
  have hlt : ctN s a 2 < 65536 := by
    unfold ctN
    split
    · exact numAt_lt s a 2
    · omega
  have TK := Lib.hid (fun (W : World) (Y : Rr B W h s (a + (ctS s a 2).size) (b || !ctB s a 2)) => take_any Y (n := ctN s a 2) (by omega))
  generalize ctN s a 2 = n at *
  generalize a + (ctS s a 2).size = a2 at *
  generalize (b || !ctB s a 2) = b2 at *
  have w0 : IntKind.i64.wrap (n : Int) = (n : Int) := by rw [IntKind.wrap_i64]; omega
  clear R
  go_enter Try.func159, Try.ntmps159
  go_wp2_with fail
  refine K.out.mono ?_
  rintro e w1 ⟨rfl, r1, u1⟩
  have R1 := Lib.hid r1
  have U1 := Lib.hid u1
  clear r1 u1 K
  go_wp2_with fail
  refine (TK.out _ R1.out).mono ?_
  rintro e w2 ⟨rfl, r2, u2⟩
  have RU := Lib.hid (And.intro r2 (U1.out.trans u2))
  clear r2 u2
  go_wp2_with fail
  go_ret
  exact ⟨rfl, RU.out.1, RU.out.2⟩
end

/-- the reader of s in block h, as who carries -/
def rNum (s : ByteArray) (p : Nat × Bool) (m : Nat) : Nat × (Nat × Bool) := (ctN s p.1 m, (p.1 + (ctS s p.1 m).size, p.2 || !ctB s p.1 m))
def rTxt (s : ByteArray) (p : Nat × Bool) : ByteArray × (Nat × Bool) :=
  (ctS s (p.1 + (ctS s p.1 2).size) (ctN s p.1 2), (p.1 + (ctS s p.1 2).size + (ctS s (p.1 + (ctS s p.1 2).size) (ctN s p.1 2)).size, p.2 || !ctB s p.1 2 || !ctB s (p.1 + (ctS s p.1 2).size) (ctN s p.1 2)))
def rCar (B h : Nat) (s : ByteArray) : Car (Nat × Bool) where
  t := 77
  x := .pointer (some ⟨h, 0, none⟩)
  fn := 33
  ft := 159
  B := B
  num := fun p _ m => rNum s p m
  txt := fun p _ => rTxt s p
  room := fun _ _ => True
  inv := fun w p => Rr B w h s p.1 p.2
theorem ctN_lt (s : ByteArray) (a m : Nat) : ctN s a m < 256 ^ m := by
  unfold ctN
  split
  · exact numAt_lt s a m
  · exact Nat.pow_pos (by decide)
set_option maxRecDepth 100000 in
theorem rCar_ok (B h : Nat) (s : ByteArray) : (rCar B h s).Ok where
  mn := fun w => by kernel_rfl
  mt := fun w => by kernel_rfl
  nn := fun w => by kernel_rfl
  nt := fun w => by kernel_rfl
  en := ⟨_, Try.func33, by kernel_rfl, by kernel_rfl⟩
  et := ⟨_, Try.func159, by kernel_rfl, by kernel_rfl⟩
  lt := fun p _ m _ => ctN_lt s p.1 m
  tl := fun p _ _ => by
    have h1 := (ctS_le s (p.1 + (ctS s p.1 2).size) (ctN s p.1 2)).1
    have h2 := ctN_lt s p.1 2
    show (ctS s (p.1 + (ctS s p.1 2).size) (ctN s p.1 2)).size ≤ 65535
    omega
  rl := fun _ _ _ _ _ => trivial
  rn := fun _ _ _ _ _ => trivial
  rt := fun _ _ _ _ => trivial
  keep := fun w w' s R k => Rr.keep R k rfl
  cn := fun w p n m R _ hm _ => rdnum_any R n m hm
  ct := fun w p t R _ _ => rdtext_any R t

end Go.Proofs.Ytfcibccipkokoaa.Op

namespace Go.Proofs.Ytfcibccipkokoaa.Op
open Go.Proofs.Ytfcibccipkokoaa.By

/-- the reader's place, and what is left -/
def Ra (s : ByteArray) (p : Nat × Bool) (r : Rd) : Prop := (p.2 = false ∧ p.1 ≤ s.size ∧ r = some ((L s).drop p.1)) ∨ (p.2 = true ∧ r = none)
theorem Ra.good {s : ByteArray} {p : Nat × Bool} {r : Rd} (h : Ra s p r) (hr : r ≠ none) : p.2 = false ∧ p.1 ≤ s.size ∧ r = some ((L s).drop p.1) := by
  rcases h with h | ⟨_, h⟩
  · exact h
  · exact absurd h hr
/-- so many bytes are taken -/
def rTk (s : ByteArray) (p : Nat × Bool) (n : Nat) : ByteArray × (Nat × Bool) := (ctS s p.1 n, (p.1 + (ctS s p.1 n).size, p.2 || !ctB s p.1 n))
theorem ra_tk {s : ByteArray} {p : Nat × Bool} {r : Rd} (h : Ra s p r) (m : Nat) : Ra s (rTk s p m).2 (cV m r).2 ∧ ((cV m r).2 ≠ none → (rTk s p m).1 = T (cV m r).1 ∧ p.1 + m ≤ s.size ∧ r = some ((L s).drop p.1)) := by
  obtain ⟨a, b⟩ := p
  rcases h with ⟨h1, h2, rfl⟩ | ⟨h1, rfl⟩
  · simp only at h1 h2
    subst h1
    simp only
    rw [cV_drop h2]
    by_cases hm : a + m ≤ s.size
    · rw [if_pos hm]
      simp only
      have e : (ctS s a m).size = m := by unfold ctS; rw [if_pos hm, ByteArray.size_extract]; omega
      refine ⟨.inl ⟨?_, ?_, ?_⟩, fun _ => ⟨?_, hm, by first | trivial | rfl⟩⟩
      · simp [rTk, ctB, hm]
      · show a + (ctS s a m).size ≤ s.size
        rw [e]; exact hm
      · show some ((L s).drop (a + m)) = some ((L s).drop (a + (ctS s a m).size))
        rw [e]
      · show ctS s a m = T (((L s).drop a).take m)
        unfold ctS
        rw [if_pos hm]
        exact L_ext (by rw [L_cut, L_T]; congr 1; omega)
    · rw [if_neg hm]
      exact ⟨.inr ⟨by simp [rTk, ctB, hm], rfl⟩, fun h => absurd rfl h⟩
  · simp only at h1
    subst h1
    exact ⟨.inr ⟨by simp [rTk], rfl⟩, fun h => absurd rfl h⟩
theorem ra_num {s : ByteArray} {p : Nat × Bool} {r : Rd} (h : Ra s p r) (m : Nat) : Ra s (rNum s p m).2 (nV m r).2 ∧ ((nV m r).2 ≠ none → (rNum s p m).1 = (nV m r).1) := by
  obtain ⟨k1, k2⟩ := ra_tk h m
  refine ⟨k1, fun hn => ?_⟩
  obtain ⟨_, e2, e3⟩ := k2 hn
  have h1 : p.1 ≤ s.size := by omega
  show ctN s p.1 m = num (cV m r).1
  rw [e3, cV_drop h1, if_pos e2]
  unfold ctN numAt
  rw [if_pos e2]
theorem ra_txt {s : ByteArray} {p : Nat × Bool} {r : Rd} (h : Ra s p r) : Ra s (rTxt s p).2 (tV r).2 ∧ ((tV r).2 ≠ none → (rTxt s p).1 = (tV r).1) := by
  obtain ⟨k1, k2⟩ := ra_num h 2
  have e1 : rTxt s p = rTk s (rNum s p 2).2 (rNum s p 2).1 := rfl
  have e2 : tV r = (T (cV (nV 2 r).1 (nV 2 r).2).1, (cV (nV 2 r).1 (nV 2 r).2).2) := rfl
  rw [e1, e2]
  by_cases hn : (nV 2 r).2 = none
  · rw [hn] at k1 ⊢
    rcases k1 with ⟨_, _, h⟩ | ⟨h, _⟩
    · cases h
    · exact ⟨.inr ⟨by show ((rNum s p 2).2.2 || _) = true; rw [h, Bool.true_or], rfl⟩, fun h => absurd rfl h⟩
  · rw [k2 hn]
    obtain ⟨q1, q2⟩ := ra_tk k1 (nV 2 r).1
    exact ⟨q1, fun h => (q2 h).1⟩
/-- texts, so many -/
theorem ra_txts {B h : Nat} {s : ByteArray} : ∀ (l : List ByteArray) (p : Nat × Bool) (r : Rd), Ra s p r → Ra s (txts (rCar B h s) l p).2 (tsV l.length r).2 ∧ ((tsV l.length r).2 ≠ none → (txts (rCar B h s) l p).1 = (tsV l.length r).1) := by
  intro l
  induction l with
  | nil => intro p r h; exact ⟨h, fun _ => rfl⟩
  | cons t l ih =>
    intro p r hR
    obtain ⟨k1, k2⟩ := ra_txt hR
    obtain ⟨j1, j2⟩ := ih _ _ k1
    refine ⟨j1, fun hn => ?_⟩
    have hn' : (tsV l.length (tV r).2).2 ≠ none := hn
    have h2 : (tV r).2 ≠ none := by
      intro e
      rw [e, tsV_none] at hn'
      exact hn' rfl
    show (rTxt s p).1 :: (txts (rCar B h s) l (rTxt s p).2).1 = (tV r).1 :: (tsV l.length (tV r).2).1
    rw [k2 h2, j2 hn']
theorem ra_short {s : ByteArray} {p : Nat × Bool} (h : Ra s p none) : p.2 = true := by
  rcases h with ⟨_, _, h⟩ | ⟨h, _⟩
  · cases h
  · exact h
theorem ra_none {s : ByteArray} {p : Nat × Bool} (h : p.2 = true) : Ra s p none := .inr ⟨h, rfl⟩
theorem ra_rows {B h : Nat} {s : ByteArray} {p : Nat × Bool} {r : Rd} (H : Ra s p r) : Ra s (rowsC (rCar B h s) p []).2 (tsV (nV 2 r).1 (nV 2 r).2).2 ∧ ((tsV (nV 2 r).1 (nV 2 r).2).2 ≠ none → (rowsC (rCar B h s) p []).1 = (tsV (nV 2 r).1 (nV 2 r).2).1) := by
  obtain ⟨k1, k2⟩ := ra_num H 2
  have e1 : rowsC (rCar B h s) p [] = txts (rCar B h s) (fitTo (rNum s p 2).1 []) (rNum s p 2).2 := rfl
  rw [e1]
  by_cases hn : (nV 2 r).2 = none
  · rw [hn] at k1 ⊢
    rw [tsV_none]
    have := (ra_txts (B := B) (h := h) (fitTo (rNum s p 2).1 []) _ _ k1).1
    rw [tsV_none] at this
    exact ⟨this, fun h => absurd rfl h⟩
  · have e := k2 hn
    obtain ⟨j1, j2⟩ := ra_txts (B := B) (h := h) (fitTo (rNum s p 2).1 []) _ _ k1
    rw [fitTo_len, e] at j1 j2
    rw [e]
    exact ⟨j1, j2⟩
theorem nV_none2 (m : Nat) : (nV m none).2 = none := rfl
theorem tailV_none (k p : Nat) : (tailV k p none).2 = none := by
  unfold tailV
  simp only [nV_none, tV_none, tsV_none]
  repeat' split
  all_goals rfl
theorem opV_none : (opV none).2 = none := by
  unfold opV
  exact tailV_none _ _
theorem ra_thru {B h : Nat} {s : ByteArray} {p : Nat × Bool} {r : Rd} (H : Ra s p r) (k g : Nat) :
    Ra s (thru (rCar B h s) { O.zero with kind := k, page := g } p).2 (tailV k g r).2 ∧ ((tailV k g r).2 ≠ none → (thru (rCar B h s) { O.zero with kind := k, page := g } p).1 = (tailV k g r).1) := by
  have hn : ∀ q n m, ((rCar B h s).num q n m) = rNum s q m := fun _ _ _ => rfl
  have ht : ∀ q t, ((rCar B h s).txt q t) = rTxt s q := fun _ _ => rfl
  unfold thru tailV
  simp only [hn, ht]
  by_cases h1 : k = 1
  · rw [if_pos h1, if_pos h1]
    obtain ⟨a1, a2⟩ := ra_num H 1
    obtain ⟨b1, b2⟩ := ra_num a1 1
    obtain ⟨c1, c2⟩ := ra_num b1 4
    refine ⟨c1, fun hx => ?_⟩
    have hb : (nV 1 (nV 1 r).2).2 ≠ none := by intro e; rw [e] at hx; exact hx rfl
    have ha : (nV 1 r).2 ≠ none := by intro e; rw [e] at hb; exact hb rfl
    simp only
    rw [a2 ha, b2 hb, c2 hx]
  rw [if_neg h1, if_neg h1]
  by_cases h2 : k = 2 ∨ k = 3
  · rw [if_pos h2, if_pos h2]
    obtain ⟨a1, a2⟩ := ra_num H 2
    obtain ⟨b1, b2⟩ := ra_txt a1
    refine ⟨b1, fun hx => ?_⟩
    have ha : (nV 2 r).2 ≠ none := by intro e; rw [e] at hx; exact hx rfl
    simp only
    rw [a2 ha, b2 hx]
  rw [if_neg h2, if_neg h2]
  by_cases h3 : k = 4 ∨ k = 5
  · rw [if_pos h3, if_pos h3]
    obtain ⟨a1, a2⟩ := ra_num H 2
    refine ⟨a1, fun hx => ?_⟩
    simp only
    rw [a2 hx]
  rw [if_neg h3, if_neg h3]
  by_cases h4 : k = 6
  · rw [if_pos h4, if_pos h4]
    obtain ⟨a1, a2⟩ := ra_rows (B := B) (h := h) H
    refine ⟨a1, fun hx => ?_⟩
    show ({ O.zero with kind := k, page := g, rows := (rowsC (rCar B h s) p []).1 } : O) = _
    rw [a2 hx]
  rw [if_neg h4, if_neg h4]
  by_cases h5 : k = 7
  · rw [if_pos h5, if_pos h5]
    obtain ⟨a1, a2⟩ := ra_num H 4
    refine ⟨a1, fun hx => ?_⟩
    simp only
    rw [a2 hx]
  rw [if_neg h5, if_neg h5]
  by_cases h6 : k = 8
  · rw [if_pos h6, if_pos h6]
    obtain ⟨a1, a2⟩ := ra_num H 2
    obtain ⟨b1, b2⟩ := ra_num a1 2
    obtain ⟨c1, c2⟩ := ra_txt b1
    refine ⟨c1, fun hx => ?_⟩
    have hb : (nV 2 (nV 2 r).2).2 ≠ none := by intro e; rw [e] at hx; exact hx rfl
    have ha : (nV 2 r).2 ≠ none := by intro e; rw [e] at hb; exact hb rfl
    simp only
    rw [a2 ha, b2 hb, c2 hx]
  rw [if_neg h6, if_neg h6]
  exact ⟨H, fun _ => rfl⟩
/-- an op -/
theorem ra_whol {B h : Nat} {s : ByteArray} {p : Nat × Bool} {r : Rd} (H : Ra s p r) :
    Ra s (whol (rCar B h s) O.zero p).2 (opV r).2 ∧ ((opV r).2 ≠ none → (whol (rCar B h s) O.zero p).1 = (opV r).1) := by
  obtain ⟨a1, a2⟩ := ra_num H 1
  obtain ⟨b1, b2⟩ := ra_num a1 4
  have e1 : whol (rCar B h s) O.zero p = thru (rCar B h s) { O.zero with kind := (rNum s p 1).1, page := (rNum s (rNum s p 1).2 4).1 } (rNum s (rNum s p 1).2 4).2 := rfl
  rw [e1]
  by_cases hb : (nV 4 (nV 1 r).2).2 = none
  · have e2 : (opV r).2 = none := by unfold opV; rw [hb]; exact tailV_none _ _
    rw [hb] at b1
    obtain ⟨c1, _⟩ := ra_thru (B := B) (h := h) b1 (rNum s p 1).1 (rNum s (rNum s p 1).2 4).1
    rw [tailV_none] at c1
    rw [e2]
    exact ⟨c1, fun h => absurd rfl h⟩
  · have ha : (nV 1 r).2 ≠ none := by intro e; rw [e] at hb; exact hb rfl
    rw [a2 ha, b2 hb]
    exact ra_thru (B := B) (h := h) b1 _ _
theorem Ra.sticky {s : ByteArray} {p : Nat × Bool} (h : p.2 = true) {B g : Nat} : (whol (rCar B g s) O.zero p).2.2 = true := by
  have := (ra_whol (B := B) (h := g) (ra_none (s := s) h)).1
  rw [opV_none] at this
  exact ra_short this

end Go.Proofs.Ytfcibccipkokoaa.Op

namespace Go.Proofs.Ytfcibccipkokoaa.Op
open Go.RowKit
open Go.Proofs.Ytfcibccipkokoaa.Seq (strS Is Own one_src wpList_app)
open Go.Proofs.Ytfcibccipkokoaa.By
attribute [local go_sem ↓] Go.wp_at_zero Go.wp_at_succ

def top (t : TypeId) : Bool := t == 36
theorem own_only {w w' : World} {v : Value} {q : List (O × Sl)} {B : Nat} (hB : B = w.heap.size) {wr : World} (k0 : Own opS w wr v q) (g : wr.grownBy w' v.ownBlock) : Only B top wr w' := by
  subst hB
  refine ⟨g.os, g.tape, g.output, g.size, fun b hb hn => g.block b hb (fun e => ?_)⟩
  have h1 := k0.lt b e.symm
  rcases hn with hn | hn
  · omega
  · rcases k0.form with ⟨rfl, _⟩ | ⟨g2, cap, cur, rfl, _, h3, _⟩
    · simp [Value.ownBlock] at e
    · simp only [Value.ownBlock, Option.some.injEq] at e
      subst e
      have := hn _ _ _ h3
      cases this
/-- ops that were read: each lies well -/
def Qs (w wr : World) (v : Value) (xs : List O) : Prop := ∃ q : List (O × Sl), q.map (·.1) = xs ∧ Own opS w wr v q ∧ ∀ x ∈ q, Fit x.1 ∧ Rk w.heap.size wr x.2.1 x.1.rows
theorem in_fit {B : Nat} {w : World} {o : O} {u : Value} (f : Fit o) (r : Rk B w u o.rows) : In w o u :=
  ⟨f.wf, by have := f.a; omega, by have := f.f; omega, by have := f.text; omega, r.is, by have := f.len; omega, fun r hr => by have := f.each r hr; omega⟩
theorem Qs.only {w wr w' : World} {v : Value} {xs : List O} (h : Qs w wr v xs) {T : TypeId → Bool} (k : Only w.heap.size T wr w') (h1 : T 36 = false) (h2 : T 9 = false) : Qs w w' v xs := by
  obtain ⟨q, e, ho, hx⟩ := h
  refine ⟨q, e, ?_, fun x hq => ⟨(hx x hq).1, (hx x hq).2.only k h2⟩⟩
  refine ho.far k.size fun y hy => ?_
  rcases ho.form with ⟨rfl, rfl⟩ | ⟨g, cap, cur, rfl, _, h3, _⟩
  · simp [Value.ownBlock] at hy
  · simp only [Value.ownBlock, Option.some.injEq] at hy
    subst hy
    exact (k.keep h3 h1).trans h3.symm
theorem Qs.ops {w wr : World} {v : Value} {xs : List O} (h : Qs w wr v xs) : Ops wr v xs := by
  obtain ⟨q, e, ho, hx⟩ := h
  exact ⟨q, e, ho.is, fun x hq => in_fit (hx x hq).1 (hx x hq).2⟩
theorem Qs.shape {w wr : World} {v : Value} {xs : List O} (h : Qs w wr v xs) : ∃ a cap, v = .slice a xs.length cap := h.ops.shape
/-- how far it is read -/
def Far (s : ByteArray) (n : Nat) (r1 : Rd) (xs : List O) (a : Nat) (b : Bool) : Prop := (b = false ∧ Rdg n r1 xs (some ((L s).drop a)) ∧ decL s = (lsV n r1).bind fun x => if x.2 = some [] then some x.1 else none) ∨ (b = true ∧ decL s = none)
theorem fit_zero : Fit O.zero := ⟨⟨by decide, by decide, by decide, by decide, by decide⟩, by decide, by decide, Nat.zero_le _, Nat.zero_le _, fun r hr => by cases hr⟩
theorem Rr.start (w : World) {s : ByteArray} (hs : s.size ≤ 100000) : Rr w.heap.size (w.alloc (.cells #[.string s, .int .i64 0, .bool false] 76)) w.heap.size s 0 false :=
  ⟨heap_alloc_new _ _, Nat.le_refl _, Nat.zero_le _, hs⟩
theorem Rr.ra {B : Nat} {w : World} {h : Nat} {s : ByteArray} {a : Nat} {b : Bool} (R : Rr B w h s a b) : Ra s (a, b) (if b then none else some ((L s).drop a)) := by
  cases b
  · exact .inl ⟨rfl, R.le, rfl⟩
  · exact .inr ⟨rfl, rfl⟩

set_option maxRecDepth 100000 in
set_option maxHeartbeats 4000000 in
theorem cdecode_all (s : ByteArray) (w : World) (hs : s.size ≤ 100000) : Calls Try.prog 11 #[.string s] w (DecP w s) := by
  have R0 := Lib.hid (Rr.start w hs)
  have K1 := Lib.hid (show Calls Try.prog 33 #[.pointer (some ⟨w.heap.size, 0, none⟩), .int .u64 0, .int .i64 1] _ _ from rdnum_any R0.out 0 1 (by decide))
  have RA0 : Ra s (0, false) (some (L s)) := .inl ⟨rfl, Nat.zero_le _, by rw [List.drop_zero]⟩
  obtain ⟨ra1, ra2⟩ := ra_num RA0 1
  have B0 := Lib.hid (below_new w (.cells #[.string s, .int .i64 0, .bool false] 76))
  obtain ⟨n, hn⟩ : ∃ n, n = ctN s 0 1 := ⟨_, rfl⟩
  have n256 : n < 256 := by rw [hn]; exact ctN_lt s 0 1
  have DL : decL s = if (nV 1 (some (L s))).2 = none then none else if 32 < (nV 1 (some (L s))).1 then none else (lsV (nV 1 (some (L s))).1 (nV 1 (some (L s))).2).bind fun x => if x.2 = some [] then some x.1 else none := rfl
  have ra2' : (nV 1 (some (L s))).2 ≠ none → n = (nV 1 (some (L s))).1 := fun h => by rw [hn]; exact ra2 h
  have ra1' : Ra s (0 + (ctS s 0 1).size, false || !ctB s 0 1) (nV 1 (some (L s))).2 := ra1
  rw [← hn] at K1
  generalize (nV 1 (some (L s))).2 = r1 at *
  generalize (nV 1 (some (L s))).1 = n1 at *
  generalize 0 + (ctS s 0 1).size = a1 at *
  generalize (false || !ctB s 0 1) = b1 at *
  -- what is known behind the first number
  have F0 := Lib.hid (show 32 < n → decL s = none from fun h => by
    rw [DL]
    by_cases h1 : r1 = none
    · rw [if_pos h1]
    · rw [if_neg h1, if_pos (by rw [← ra2' h1]; exact h)])
  have F1 := Lib.hid (show ¬ 32 < n → Far s n r1 [] a1 b1 from fun h => by
    rcases ra1' with ⟨h1, h2, h3⟩ | ⟨h1, h3⟩
    · simp only at h3
      refine .inl ⟨h1, ?_, ?_⟩
      · have := Rdg.start n r1
        rw [h3] at this ⊢
        exact this
      · have hr : r1 ≠ none := by rw [h3]; simp
        rw [DL, if_neg hr, ← ra2' hr, if_neg h]
    · refine .inr ⟨h1, ?_⟩
      rw [DL, if_pos h3])
  have BAD := Lib.hid (fun w' h b => @DecP.bad w w' s h b)
  have OKK := Lib.hid (fun w' l v h hv b => @DecP.ok w w' s l v h hv b)
  clear hn DL ra1 ra2 ra1' ra2' RA0 R0
  go_enter Try.func11, Try.ntmps11
  go_wp2_with fail
  refine K1.out.mono ?_
  rintro e w1 ⟨rfl, g1, u1⟩
  have B1 := Lib.hid (B0.out.trans (u1.below (by simp)))
  have R1 := Lib.hid g1
  clear u1 g1 K1 B0
  by_cases h32 : 32 < n
  · have ED := Lib.hid (F0.out h32)
    clear F0 F1
    go_wp2_with fail
    go_ret2
    exact BAD.out _ ED.out B1.out
  have FF := Lib.hid (F1.out h32)
  clear F0 F1
  have Q1 := Lib.hid (show Qs w w1 (.slice none 0 0) [] from ⟨[], rfl, Own.nil opS w B1.out.size, fun x hx => by cases hx⟩)
  go_wp2_with fail
  obtain ⟨wz, hwz⟩ : ∃ wz, wz = w1 := ⟨_, rfl⟩
  rw [← hwz] at R1 B1 Q1 ⊢
  clear hwz
  go_loopw [6, 15] (fun v i wr => ∃ (xs : List O) (a : Nat) (b : Bool) (v' : Value), v = v' ∧ i = .int .u64 (xs.length : Int) ∧ xs.length ≤ n ∧ Qs w wr v' xs ∧ Rr w.heap.size wr w.heap.size s a b ∧ Below w.heap.size w wr ∧ Far s n r1 xs a b) (fun _ i _ => n - (intOf i).toNat)
  case atStart => exact ⟨[], a1, b1, _, rfl, rfl, Nat.zero_le _, Q1.out, R1.out, B1.out, FF.out⟩
  case round =>
    obtain ⟨xs, a, b, vl, hv, rfl, hle, hq, hr, hb, hf⟩ := hrel
    obtain ⟨ad0, cap0, rfl⟩ := hq.shape
    subst hv
    have QQ := Lib.hid hq
    have RR := Lib.hid hr
    have BB := Lib.hid hb
    have FA := Lib.hid hf
    clear hq hr hb hf R1 B1 Q1 FF
    by_cases hlt : xs.length < n
    · have X2 := Lib.hid (⟨heap_alloc_new _ _, BB.out.size, fit_zero, ⟨Is.nil _, fun a n c e => by cases e⟩⟩ : Pb w.heap.size (wr.alloc (.cells #[.int .u8 0, .int .u32 0, .int .i64 0, .int .i64 0, .string ⟨#[]⟩, .slice none 0 0, .int .u8 0, .int .u8 0, .int .u32 0] 72)) wr.heap.size O.zero (.slice none 0 0))
      have n2 := below_new wr (.cells #[.int .u8 0, .int .u32 0, .int .i64 0, .int .i64 0, .string ⟨#[]⟩, .slice none 0 0, .int .u8 0, .int .u8 0, .int .u32 0] 72)
      have R2 := Lib.hid (RR.out.keep (T := fun _ => false) (Only.ofNew n2) rfl)
      have Q2 := Lib.hid (QQ.out.only (T := fun _ => false) (Only.ofNew n2) rfl rfl)
      have B2 := Lib.hid (BB.out.trans (n2.mono BB.out.size))
      have K := Lib.hid (show Calls Try.prog 32 #[.pointer (some ⟨wr.heap.size, 0, none⟩), .iface 77 (.pointer (some ⟨w.heap.size, 0, none⟩))] _ _ from whole_any (C := rCar w.heap.size w.heap.size s) (rCar_ok _ _ _) (s := (a, b)) R2.out X2.out (whole_chain (rCar_ok _ _ _) trivial ⟨trivial, trivial, trivial⟩))
      -- what it has become
      obtain ⟨ra1, ra2⟩ := ra_whol (B := w.heap.size) (h := w.heap.size) RR.out.ra
      obtain ⟨o, p, ho⟩ : ∃ o p, whol (rCar w.heap.size w.heap.size s) O.zero (a, b) = (o, p) := ⟨_, _, rfl⟩
      obtain ⟨a2, b2⟩ := p
      rw [ho] at K ra1 ra2
      have NEW := Lib.hid (show (May o → Far s n r1 (xs ++ [o]) a2 b2) ∧ (¬ May o → decL s = none) from by
        rcases FA.out with ⟨hb, hR, DD'⟩ | ⟨hb, hD⟩
        · subst hb
          simp only [Bool.false_eq_true, if_false] at ra1 ra2
          by_cases hn : (opV (some ((L s).drop a))).2 = none
          · rw [hn] at ra1
            have hs2 := ra_short ra1
            have hD : decL s = none := by rw [DD', hR.stop hlt (.inl hn)]; rfl
            exact ⟨fun _ => .inr ⟨hs2, hD⟩, fun _ => hD⟩
          · have e := ra2 hn
            obtain ⟨g1, g2, g3⟩ := ra1.good hn
            simp only at g1 g3 e
            subst e
            refine ⟨fun hm => .inl ⟨g1, ?_, DD'⟩, fun hm => ?_⟩
            · rw [← g3]; exact hR.step hlt hn hm
            · rw [DD', hR.stop hlt (.inr hm)]; rfl
        · have := Ra.sticky (s := s) (p := (a, b)) hb (B := w.heap.size) (g := w.heap.size)
          rw [ho] at this
          exact ⟨fun _ => .inr ⟨this, hD⟩, fun _ => hD⟩)
      clear ra1 ra2 ho R2 X2 n2 RR QQ BB FA
      go_upto_region 9 with fail
      generalize wr.alloc _ = wq at *
      generalize wr.heap.size = g at *
      go_wp2_with fail
      refine K.out.mono ?_
      rintro e w4 ⟨rfl, i4, ⟨u, x4⟩, k4⟩
      have R4 := Lib.hid (show Rr w.heap.size w4 w.heap.size s a2 b2 from i4)
      have X4 := Lib.hid x4
      have Q4 := Lib.hid (Q2.out.only k4 rfl rfl)
      have B4 := Lib.hid (B2.out.trans (k4.below B2.out.size))
      clear i4 x4 k4 K Q2 B2
      obtain ⟨ua, uc, hu⟩ := X4.out.rows.is.shape
      obtain ⟨un, hun⟩ : ∃ un, un = o.rows.length := ⟨_, rfl⟩
      rw [← hun] at hu
      subst hu
      clear hun
      obtain ⟨a0, a1', a2', a3, a4, a5, a6, a7, a8⟩ := X4.out.nine
      have n5 := below_new w4 (.cells (oC o (.slice ua un uc)) 36)
      have T5 := Lib.hid (⟨heap_alloc_new _ _, B4.out.trans (n5.mono B4.out.size)⟩ : Bx w (w4.alloc (.cells (oC o (.slice ua un uc)) 36)) w4.heap.size o (.slice ua un uc))
      have R5 := Lib.hid (R4.out.keep (T := fun _ => false) (Only.ofNew n5) rfl)
      have Q5 := Lib.hid (Q4.out.only (T := fun _ => false) (Only.ofNew n5) rfl rfl)
      have K5 := Lib.hid (X4.out.rows.only (T := fun _ => false) (Only.ofNew n5) rfl)
      have FI := Lib.hid X4.out.fit
      have KM := Lib.hid (cmay_all (in_fit FI.out K5.out))
      unfold oV oC at KM
      unfold oC at T5 R5 Q5 K5
      clear n5 R4 Q4 X4 B4
      go_upto_region 11 with fail
      clear a0 a1' a2' a3 a4 a5 a6 a7 a8
      generalize w4.alloc _ = w5 at *
      generalize w4.heap.size = g5 at *
      obtain ⟨a0, a1', a2', a3, a4, a5, a6, a7, a8⟩ := T5.out.nine
      by_cases hm : May o
      · have NF := Lib.hid (NEW.out.1 hm)
        rw [decide_eq_true hm] at KM
        clear NEW hm
        go_wp2_with fail
        refine KM.out.mono ?_
        rintro e w6 ⟨rfl, b6⟩
        have T6 := Lib.hid (T5.out.later b6)
        have R6 := Lib.hid (R5.out.keep (T := fun _ => false) (Only.ofNew b6) rfl)
        have Q6 := Lib.hid (Q5.out.only (T := fun _ => false) (Only.ofNew b6) rfl rfl)
        have K6 := Lib.hid (K5.out.only (T := fun _ => false) (Only.ofNew b6) rfl)
        clear b6 a0 a1' a2' a3 a4 a5 a6 a7 a8 T5 R5 Q5 K5 KM
        obtain ⟨a0, a1', a2', a3, a4, a5, a6, a7, a8⟩ := T6.out.nine
        have n7 := below_new w6 (.cells (opS.cells ((o, mkSl ua un uc) : O × Sl)).toArray 36)
        have R7 := Lib.hid (R6.out.keep (T := fun _ => false) (Only.ofNew n7) rfl)
        have Q7 := Lib.hid (Q6.out.only (T := fun _ => false) (Only.ofNew n7) rfl rfl)
        have K7 := Lib.hid (K6.out.only (T := fun _ => false) (Only.ofNew n7) rfl)
        have B7 := Lib.hid (T6.out.below.trans (n7.mono T6.out.below.size))
        obtain ⟨q, q1, q2, q3⟩ := Q7.out
        have QW := Lib.hid q2
        have QE := Lib.hid q1
        have QF := Lib.hid q3
        have ql : xs.length = q.length := by rw [← q1, List.length_map]
        have QL := Lib.hid ql
        have HL := Lib.hid (show q.length + [((o, mkSl ua un uc) : O × Sl)].length ≤ 1000000 from by rw [← QL.out]; show xs.length + 1 ≤ _; omega)
        clear q1 q2 q3 ql n7 R6 Q6 K6 T6 Q7
        go_wp2_with (at_builtin; refine wpList_app (S := opS) (W0 := w) (l := q) (m := [((o, mkSl ua un uc) : O × Sl)]) rfl _ _ rfl QW.out (one_src opS ((o, mkSl ua un uc) : O × Sl)) HL.out rfl rfl ?_; intro v8 w8 o8 g8)
        go_roundw
        case rel =>
          have k8 := own_only rfl QW.out g8
          refine ⟨xs ++ [o], a2, b2, v8, rfl, by rw [List.length_append]; go_num, by rw [List.length_append]; show xs.length + 1 ≤ n; omega, ⟨_, by rw [List.map_append, QE.out]; rfl, o8, fun x hx => ?_⟩, R7.out.keep k8 rfl, B7.out.trans (k8.below B7.out.size), NF.out⟩
          rcases List.mem_append.1 hx with hx | hx
          · exact ⟨(QF.out x hx).1, (QF.out x hx).2.only k8 rfl⟩
          · rw [List.mem_singleton.1 hx]
            exact ⟨FI.out, K7.out.only k8 rfl⟩
        case measure => simp [intOf]; omega
      · have ED := Lib.hid (NEW.out.2 hm)
        rw [decide_eq_false hm] at KM
        have B5 := Lib.hid T5.out.below
        clear NEW hm R5 Q5 K5
        go_wp2_with fail
        refine KM.out.mono ?_
        rintro e w6 ⟨rfl, b6⟩
        have B6 := Lib.hid (B5.out.trans (b6.mono B5.out.size))
        clear b6
        go_wp2_with fail
        go_ret2
        exact BAD.out _ ED.out B6.out
    · obtain ⟨c0, c1, c2⟩ := RR.out.three
      rcases FA.out with ⟨hb, hR, hD⟩ | ⟨hb, hD⟩
      · subst hb
        have hL : lsV n r1 = some (xs, some ((L s).drop a)) := hR.done hlt
        rw [hL] at hD
        have hle := RR.out.le
        by_cases he : a = s.size
        · have ED := Lib.hid (show decL s = some xs by
            rw [hD]
            show (if some ((L s).drop a) = some [] then some xs else none) = _
            rw [if_pos]
            rw [List.drop_of_length_le (by rw [L_len]; omega)])
          have OP := Lib.hid QQ.out.ops
          subst he
          clear hL hD hR
          go_wp2_with fail
          go_ret2
          exact OKK.out _ _ _ ED.out OP.out BB.out
        · have ED := Lib.hid (show decL s = none by
            rw [hD]
            show (if some ((L s).drop a) = some [] then some xs else none) = _
            rw [if_neg]
            intro h
            have := congrArg List.length (Option.some.inj h)
            rw [List.length_drop, L_len] at this
            simp at this
            omega)
          have f1 : a < s.size := by omega
          clear hL hD hR he
          go_wp2_with fail
          go_ret2
          exact BAD.out _ ED.out BB.out
      · subst hb
        have ED := Lib.hid hD
        clear hD
        go_wp2_with fail
        go_ret2
        exact BAD.out _ ED.out BB.out

end Go.Proofs.Ytfcibccipkokoaa.Op
