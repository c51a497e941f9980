/- Calls and truths that come in. -/
import Derived.Test.YtehfclgngkhcpaaDA
import Derived.Deep.Slices
import Derived.Deep.Fields
import Derived.Deep.Grids
import Derived.ChangeSame
import Derived.SizedLaws
namespace Go.Proofs.Ytehfclgngkhcpaa.Disk
open Go.RowKit Go.ChangeShapes Go.WideShapes Go.Deep

/-- a call, as it comes in -/
structure Cl where
  op : Int
  k : Int
  c : UInt8
  odd : Bool
  s : ByteArray
  n : Int
  kv : Value
  keep : List Bool
instance : Inhabited Cl := ⟨⟨0, 0, 0, false, .empty, 0, .slice none 0 0, []⟩⟩

structure ClAt (w : World) (x o : Nat) (c : Cl) : Prop where
  c0 : w.cell? ⟨x, o, none⟩ = some (.int .u8 c.op)
  c1 : w.cell? ⟨x, o + 1, none⟩ = some (.int .i64 c.k)
  c2 : w.cell? ⟨x, o + 2, none⟩ = some (.int .u8 (c.c.toNat : Int))
  c3 : w.cell? ⟨x, o + 3, none⟩ = some (.bool c.odd)
  c4 : w.cell? ⟨x, o + 4, none⟩ = some (.string c.s)
  c5 : w.cell? ⟨x, o + 5, none⟩ = some (.int .i64 c.n)
  c6 : w.cell? ⟨x, o + 6, none⟩ = some c.kv
  keep : Bools w c.kv c.keep
  op : 0 ≤ c.op ∧ c.op ≤ 255
  k : -9223372036854775808 ≤ c.k ∧ c.k ≤ 9223372036854775807
  n : -9223372036854775808 ≤ c.n ∧ c.n ≤ 9223372036854775807
  s : c.s.size ≤ 140737488351232
  keepn : c.keep.length ≤ 140737488351232

/-- v is a slice of these calls -/
def IsCalls (w : World) (v : Value) (l : List Cl) : Prop :=
  ∃ a cap, v = .slice a l.length cap ∧ ∀ i c, l[i]? = some c → ∃ x o, a = some ⟨x, o, none⟩ ∧ ClAt w x (o + i * 7) c

theorem Bools.later {w w' : World} {v : Value} {l : List Bool} (h : Bools w v l) (t : Below w.heap.size w w') : Bools w' v l := h.far fun b _ hlt => t.block b hlt
theorem ClAt.later {w w' : World} {x o : Nat} {c : Cl} (h : ClAt w x o c) (t : Below w.heap.size w w') : ClAt w' x o c := by
  have hx : x < w.heap.size := block_lt_of_cell h.c0
  have e : ∀ j, w'.cell? ⟨x, j, none⟩ = w.cell? ⟨x, j, none⟩ := fun j => t.cell (p := ⟨x, j, none⟩) hx
  exact ⟨(e _).trans h.c0, (e _).trans h.c1, (e _).trans h.c2, (e _).trans h.c3, (e _).trans h.c4, (e _).trans h.c5, (e _).trans h.c6, h.keep.later t, h.op, h.k, h.n, h.s, h.keepn⟩
theorem IsCalls.later {w w' : World} {v : Value} {l : List Cl} (h : IsCalls w v l) (t : Below w.heap.size w w') : IsCalls w' v l := by
  obtain ⟨a, cap, hv, hc⟩ := h
  refine ⟨a, cap, hv, fun i c hi => ?_⟩
  obtain ⟨x, o, ha, h1⟩ := hc i c hi
  exact ⟨x, o, ha, h1.later t⟩

section
variable {H : Type} {enc : TypeId × Value → H} {W : World}

theorem weights_all {P : Program} {e : TypeId} : ∀ {l : List (DataW H)} {d : DataW H}, d ∈ l → ∀ n ∈ d.weights P e, n ∈ DataW.weightsAll P e l
  | [], _, h, _, _ => by cases h
  | x :: r, d, h, n, hn => by
    simp only [DataW.weightsAll, List.mem_append]
    rcases List.mem_cons.1 h with rfl | h
    · exact .inl hn
    · exact .inr (weights_all h n hn)

set_option maxRecDepth 100000 in
/-- a slice of truths -/
theorem bools_of {fuel : Nat} {v : Value} {y : DataW H × List MemPlace} (h : DataW.trod enc Try.prog W 0 (fun _ => true) true fuel 38 [v] = some y) (hz : ∀ n ∈ y.1.weights Try.prog 38, n ≤ 140737488351232) :
    ∃ l : List Bool, Bools W v l ∧ l.length ≤ 140737488351232 := by
  rcases open_bools Try.underlying38 Try.underlying4 (by kernel_rfl) h with ⟨h1, _⟩ | ⟨a, len, cap, B, h1, _, hl, hm, hx, hc⟩
  · simp at h1
    subst h1
    exact ⟨[], ⟨none, 0, rfl, by simp⟩, by simp⟩
  · simp at h1
    subst h1
    refine ⟨(List.range len).map B, ⟨some a, cap, by simp, fun j b hb => ?_⟩, ?_⟩
    · simp only [List.getElem?_map, Option.map_eq_some_iff] at hb
      obtain ⟨j', hj, rfl⟩ := hb
      have hj2 := List.getElem?_eq_some_iff.1 hj
      obtain ⟨hlt, e⟩ := hj2
      simp at hlt e
      subst e
      have h0 := hc 0 (by omega)
      have hj3 := hc j (by omega)
      obtain ⟨x, o, sp⟩ := a
      have hsp : sp = none := by
        cases sp with
        | none => rfl
        | some s => simp [Addr.add, World.cell?] at h0; split at h0 <;> simp at h0
      subst hsp
      exact ⟨x, o, rfl, by rw [Addr.add_mid] at hj3; exact hj3⟩
    · have e1 : y.1 = .slice ((List.range len).map fun i => .lit (.bool (B i))) ((List.range (cap - len)).map fun j => .lit (.bool (B (len + j)))) := by rw [hx]; rfl
      have hb1 : Try.prog.bytesOf 4 = 1 := by kernel_rfl
      have := hz ((((List.range len).map fun i => (DataW.lit (Lit.bool (B i)) : DataW H)).length + ((List.range (cap - len)).map fun j => (DataW.lit (Lit.bool (B (len + j))) : DataW H)).length) * Try.prog.bytesOf 4) (by
        rw [e1]
        simp only [DataW.weights, Try.underlying38]
        exact List.mem_cons_self ..)
      rw [hb1] at this
      simp at this ⊢
      omega

set_option maxRecDepth 100000 in
theorem bools_arg {B : Nat} {v : Value} {d : DataW H} {p : List MemPlace} (hv : Value.okWide Try.prog W .any B 38 v) (h : DataW.Trod enc Try.prog W 0 (fun _ => true) true 38 v d p)
    (hz : ∀ n ∈ d.weights Try.prog 38, n ≤ 140737488351232) : ∃ l : List Bool, Bools W v l ∧ l.length ≤ 140737488351232 := by
  obtain ⟨a, len, cap, rfl⟩ := okWide_slice Try.underlying38 hv
  obtain ⟨fuel, hf⟩ := h
  exact bools_of (y := (d, p)) hf hz

theorem wf_i64 {n : Int} (h : (Lit.int .i64 n).wf = true) : -9223372036854775808 ≤ n ∧ n ≤ 9223372036854775807 := by
  have h' : (decide (IntKind.i64.min ≤ n) && decide (n ≤ IntKind.i64.max)) = true := h
  simp only [Bool.and_eq_true, decide_eq_true_eq] at h'
  have e1 : IntKind.i64.min = -9223372036854775808 := by decide
  have e2 : IntKind.i64.max = 9223372036854775807 := by decide
  omega
theorem wf_u8 {n : Int} (h : (Lit.int .u8 n).wf = true) : 0 ≤ n ∧ n ≤ 255 := by
  have h' : (decide (IntKind.u8.min ≤ n) && decide (n ≤ IntKind.u8.max)) = true := h
  simp only [Bool.and_eq_true, decide_eq_true_eq] at h'
  have e1 : IntKind.u8.min = 0 := by decide
  have e2 : IntKind.u8.max = 255 := by decide
  omega

theorem cell_form {cs : List Value} {j : Nat} {v : Value} (h : cs[j]? = some v) : (cs.drop j).take 1 = [v] := by
  obtain ⟨hj, e⟩ := List.getElem?_eq_some_iff.1 h
  rw [List.drop_eq_getElem_cons hj, e]
  rfl

set_option maxRecDepth 100000 in
set_option maxHeartbeats 1000000 in
/-- a call, out of its cells -/
theorem call_of {fuel x o : Nat} {cs : List Value} {y : DataW H × List MemPlace} (hl : cs.length = 7) (hc : ∀ j v, cs[j]? = some v → W.cell? ⟨x, o + j, none⟩ = some v) (h : DataW.trod enc Try.prog W 0 (fun _ => true) true fuel 40 cs = some y)
    (hz : ∀ n ∈ y.1.weights Try.prog 40, n ≤ 140737488351232) : ∃ c : Cl, ClAt W x o c := by
  obtain ⟨ys, m, _, hy, _, hyl, hf⟩ := DataW.trod_struct Try.underlying40 h
  match cs, hl with
  | [v0, v1, v2, v3, v4, v5, v6], _ =>
    match ys, hyl with
    | [y0, y1, y2, y3, y4, y5, y6], _ =>
      have hone : ∀ (i : Nat) (f : Field), _ → _ := hone_of (P := Try.prog) (fs := #[{ name := "Do", type := 5, offset := 0, embedded := false, tag := "", pkgPath := "", byteOffset := 0 }, { name := "K", type := 3, offset := 1, embedded := false, tag := "", pkgPath := "", byteOffset := 8 }, { name := "C", type := 5, offset := 2, embedded := false, tag := "", pkgPath := "", byteOffset := 16 }, { name := "Odd", type := 4, offset := 3, embedded := false, tag := "", pkgPath := "", byteOffset := 17 }, { name := "S", type := 9, offset := 4, embedded := false, tag := "", pkgPath := "", byteOffset := 24 }, { name := "N", type := 3, offset := 5, embedded := false, tag := "", pkgPath := "", byteOffset := 40 }, { name := "Keep", type := 38, offset := 6, embedded := false, tag := "", pkgPath := "", byteOffset := 48 }]) (by kernel_rfl)
      have g0 : DataW.trod enc Try.prog W 0 (fun _ => true) true m 5 [v0] = some y0 := by
        have h1 := hf 0 _ rfl
        rw [(hone 0 _ rfl).2] at h1
        exact h1
      have g1 : DataW.trod enc Try.prog W 0 (fun _ => true) true m 3 [v1] = some y1 := by
        have h1 := hf 1 _ rfl
        rw [(hone 1 _ rfl).2] at h1
        exact h1
      have g2 : DataW.trod enc Try.prog W 0 (fun _ => true) true m 5 [v2] = some y2 := by
        have h1 := hf 2 _ rfl
        rw [(hone 2 _ rfl).2] at h1
        exact h1
      have g3 : DataW.trod enc Try.prog W 0 (fun _ => true) true m 4 [v3] = some y3 := by
        have h1 := hf 3 _ rfl
        rw [(hone 3 _ rfl).2] at h1
        exact h1
      have g4 : DataW.trod enc Try.prog W 0 (fun _ => true) true m 9 [v4] = some y4 := by
        have h1 := hf 4 _ rfl
        rw [(hone 4 _ rfl).2] at h1
        exact h1
      have g5 : DataW.trod enc Try.prog W 0 (fun _ => true) true m 3 [v5] = some y5 := by
        have h1 := hf 5 _ rfl
        rw [(hone 5 _ rfl).2] at h1
        exact h1
      have g6 : DataW.trod enc Try.prog W 0 (fun _ => true) true m 38 [v6] = some y6 := by
        have h1 := hf 6 _ rfl
        rw [(hone 6 _ rfl).2] at h1
        exact h1
      obtain ⟨n0, e0, _, w0⟩ := DataW.trod_int Try.underlying5 g0
      obtain ⟨n1, e1, _, w1⟩ := DataW.trod_int Try.underlying3 g1
      obtain ⟨n2, e2, _, w2⟩ := DataW.trod_int Try.underlying5 g2
      obtain ⟨b3, e3, _⟩ := DataW.trod_bool Try.underlying4 g3
      obtain ⟨s4, e4, x4, _⟩ := DataW.trod_string Try.underlying9 g4
      obtain ⟨n5, e5, _, w5⟩ := DataW.trod_int Try.underlying3 g5
      simp only [List.cons.injEq, and_true] at e0 e1 e2 e3 e4 e5
      subst e0 e1 e2 e3 e4 e5
      have hd : y.1 = .agg [y0.1, y1.1, y2.1, y3.1, y4.1, y5.1, y6.1] := by
        simp only [Prod.ext_iff] at hy
        rw [hy.1]; rfl
      have hw : ∀ n ∈ DataW.weightsEach Try.prog [5, 3, 5, 4, 9, 3, 38] [y0.1, y1.1, y2.1, y3.1, y4.1, y5.1, y6.1], n ≤ 140737488351232 := by
        intro n hn
        refine hz n ?_
        rw [hd]
        simp only [DataW.weights, Try.underlying40]
        exact hn
      have hs4 : s4.size ≤ 140737488351232 := by
        have := hw s4.data.toList.length (DataW.weights_mem_each (j := 4) rfl rfl _ (by rw [x4]; simp [DataW.weights]))
        exact this
      obtain ⟨keep, hk, hkl⟩ := bools_of g6 (fun n hn => hw n (DataW.weights_mem_each (j := 6) rfl rfl _ hn))
      have i0 := wf_u8 w0
      have i1 := wf_i64 w1
      have i2 := wf_u8 w2
      have i5 := wf_i64 w5
      have ec : ((UInt8.ofNat n2.toNat).toNat : Int) = n2 := by
        rw [UInt8.toNat_ofNat']
        omega
      refine ⟨⟨n0, n1, UInt8.ofNat n2.toNat, b3, s4, n5, v6, keep⟩, hc 0 _ rfl, hc 1 _ rfl, ?_, hc 3 _ rfl, hc 4 _ rfl, hc 5 _ rfl, hc 6 _ rfl, hk, i0, i1, i5, hs4, hkl⟩
      rw [ec]; exact hc 2 _ rfl

set_option maxRecDepth 100000 in
/-- a slice of calls -/
theorem calls_of {B : Nat} {v : Value} {d : DataW H} {p : List MemPlace} (hv : Value.okWide Try.prog W .any B 22 v) (h : DataW.Trod enc Try.prog W 0 (fun _ => true) true 22 v d p)
    (hz : ∀ n ∈ d.weights Try.prog 22, n ≤ 140737488351232) : ∃ l : List Cl, IsCalls W v l ∧ l.length ≤ 140737488351232 := by
  obtain ⟨a, len, cap, rfl⟩ := okWide_slice Try.underlying22 hv
  obtain ⟨fuel, hf⟩ := h
  have h7 : Try.prog.cellsOf 40 = 7 := by kernel_rfl
  have hb : 1 ≤ Try.prog.bytesOf 40 := by
    have : Try.prog.bytesOf 40 = 72 := by kernel_rfl
    omega
  rcases open_slice Try.underlying22 hf with ⟨h1, _⟩ | ⟨a', len', cap', m, n, D, Pl, h1, _, hl, _, hm, hx, hi⟩
  · simp [Value.cells] at h1
    obtain ⟨rfl, rfl, rfl⟩ := h1
    exact ⟨[], ⟨none, 0, rfl, by simp⟩, by simp⟩
  · simp [Value.cells] at h1
    obtain ⟨rfl, rfl, rfl⟩ := h1
    simp only [if_true] at hm
    obtain rfl := hm
    have hd : d = .slice ((List.range len).map D) ((List.range (m - len)).map fun j => D (len + j)) := congrArg Prod.fst hx
    have hw : ∀ i, i < len → ∀ n ∈ (D i).weights Try.prog 40, n ≤ 140737488351232 := fun i hlt n hn => hz n (by
      rw [hd]
      simp only [DataW.weights, Try.underlying22]
      exact List.mem_cons_of_mem _ (List.mem_append_left _ (weights_all (List.mem_map.2 ⟨i, by simpa using hlt, rfl⟩) n hn)))
    have hlen : len ≤ 140737488351232 := by
      have := hz ((((List.range len).map D).length + ((List.range (m - len)).map fun j => D (len + j)).length) * Try.prog.bytesOf 40) (by
        rw [hd]
        simp only [DataW.weights, Try.underlying22]
        exact List.mem_cons_self ..)
      simp at this
      have h2 : len * 1 ≤ (len + (m - len)) * Try.prog.bytesOf 40 := Nat.mul_le_mul (by omega) hb
      omega
    have hsp : ∀ i, i < len → a'.spot = none := fun i hlt => by
      obtain ⟨cs, hcs, _⟩ := hi 0 (by omega)
      rw [h7] at hcs
      obtain ⟨_, hl7, hat⟩ := World.cells?_some hcs
      have h0 := hat 0 (by omega)
      obtain ⟨c0, hc0⟩ : ∃ c0, cs[0]? = some c0 := ⟨cs[0]'(by omega), List.getElem?_eq_getElem (by omega)⟩
      rw [hc0] at h0
      obtain ⟨x, o, sp⟩ := a'
      cases sp with
      | none => rfl
      | some s => simp [Addr.add, World.cell?] at h0; split at h0 <;> simp at h0
    have each : ∀ i, i < len → ∃ c : Cl, ClAt W a'.block (a'.off + i * 7) c := fun i hlt => by
      obtain ⟨cs, hcs, ht⟩ := hi i (by omega)
      rw [h7] at hcs
      obtain ⟨_, hl7, hat⟩ := World.cells?_some hcs
      refine call_of (y := (D i, Pl i)) hl7 (fun j u hu => ?_) ht (hw i hlt)
      have hj : j < 7 := by rw [← hl7]; exact (List.getElem?_eq_some_iff.1 hu).1
      have := hat j hj
      rw [hu] at this
      have hs := hsp i hlt
      obtain ⟨x, o, sp⟩ := a'
      simp at hs
      subst hs
      rw [Addr.add_mid, Addr.add_mid] at this
      exact this
    obtain ⟨f, hfc⟩ := choose_lt each
    refine ⟨(List.range len).map f, ⟨some a', m, by simp, fun i c hc => ?_⟩, by simpa using hlen⟩
    simp only [List.getElem?_map, Option.map_eq_some_iff] at hc
    obtain ⟨i', h3, rfl⟩ := hc
    obtain ⟨hlt, e⟩ := List.getElem?_eq_some_iff.1 h3
    simp at hlt e
    subst e
    have hs := hsp i hlt
    have hc := hfc i hlt
    obtain ⟨x, o, sp⟩ := a'
    simp at hs
    subst hs
    exact ⟨x, o, rfl, hc⟩
end
end Go.Proofs.Ytehfclgngkhcpaa.Disk
