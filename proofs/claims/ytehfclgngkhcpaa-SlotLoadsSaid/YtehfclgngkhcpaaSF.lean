/- Calls that come in. -/
import Derived.Test.YtehfclgngkhcpaaSA
import Derived.Deep.Slices
import Derived.Deep.Fields
import Derived.Deep.Grids
import Derived.ChangeSame
import Derived.SizedLaws
namespace Go.Proofs.Ytehfclgngkhcpaa.Slot
open Go.RowKit Go.ChangeShapes Go.WideShapes Go.Deep

/-- a call, as it comes in -/
structure Cl where
  op : Int
  k : Int
  s : ByteArray
instance : Inhabited Cl := ⟨⟨0, 0, .empty⟩⟩

structure ClAt (w : World) (x o : Nat) (c : Cl) : Prop where
  c0 : w.cell? ⟨x, o, none⟩ = some (.int .u8 c.op)
  c1 : w.cell? ⟨x, o + 1, none⟩ = some (.int .i64 c.k)
  c2 : w.cell? ⟨x, o + 2, none⟩ = some (.string c.s)
  op : 0 ≤ c.op ∧ c.op ≤ 255
  k : -9223372036854775808 ≤ c.k ∧ c.k ≤ 9223372036854775807
  s : c.s.size ≤ 140737488351232

/-- v is a slice of these calls -/
def IsCalls (w : World) (v : Value) (l : List Cl) : Prop :=
  ∃ a cap, v = .slice a l.length cap ∧ ∀ i c, l[i]? = some c → ∃ x o, a = some ⟨x, o, none⟩ ∧ ClAt w x (o + i * 3) c

theorem ClAt.far {w w' : World} {x o : Nat} {c : Cl} (h : ClAt w x o c) (t : w'.heap[x]? = w.heap[x]?) : ClAt w' x o c := by
  have e : ∀ j, w'.cell? ⟨x, j, none⟩ = w.cell? ⟨x, j, none⟩ := fun j => World.cell?_of_block t
  exact ⟨(e _).trans h.c0, (e _).trans h.c1, (e _).trans h.c2, h.op, h.k, h.s⟩
theorem IsCalls.later {w w' : World} {v : Value} {l : List Cl} (h : IsCalls w v l) (t : Below w.heap.size w w') : IsCalls w' v l := by
  obtain ⟨a, cap, hv, hc⟩ := h
  refine ⟨a, cap, hv, fun i c hi => ?_⟩
  obtain ⟨x, o, ha, h1⟩ := hc i c hi
  exact ⟨x, o, ha, h1.far (t.block x (block_lt_of_cell h1.c0))⟩
theorem IsCalls.at {w : World} {v : Value} {l : List Cl} (h : IsCalls w v l) {k : Nat} (hk : k < l.length) : ∃ x o cap, v = .slice (some ⟨x, o, none⟩) l.length cap ∧ ClAt w x (o + k * 3) l[k] := by
  obtain ⟨a, cap, hv, hc⟩ := h
  obtain ⟨x, o, ha, h1⟩ := hc k l[k] (List.getElem?_eq_getElem hk)
  exact ⟨x, o, cap, by rw [hv, ha], h1⟩

section
variable {H : Type} {enc : TypeId × Value → H} {W : World}

theorem weights_all {P : Program} {e : TypeId} : ∀ {l : List (DataW H)} {d : DataW H}, d ∈ l → ∀ n ∈ d.weights P e, n ∈ DataW.weightsAll P e l
  | [], _, h, _, _ => by cases h
  | x :: r, d, h, n, hn => by
    simp only [DataW.weightsAll, List.mem_append]
    rcases List.mem_cons.1 h with rfl | h
    · exact .inl hn
    · exact .inr (weights_all h n hn)

theorem wf_i64 {n : Int} (h : (Lit.int .i64 n).wf = true) : -9223372036854775808 ≤ n ∧ n ≤ 9223372036854775807 := by
  have h' : (decide (IntKind.i64.min ≤ n) && decide (n ≤ IntKind.i64.max)) = true := h
  simp only [Bool.and_eq_true, decide_eq_true_eq] at h'
  have e1 : IntKind.i64.min = -9223372036854775808 := by decide
  have e2 : IntKind.i64.max = 9223372036854775807 := by decide
  omega
theorem wf_u8 {n : Int} (h : (Lit.int .u8 n).wf = true) : 0 ≤ n ∧ n ≤ 255 := by
  have h' : (decide (IntKind.u8.min ≤ n) && decide (n ≤ IntKind.u8.max)) = true := h
  simp only [Bool.and_eq_true, decide_eq_true_eq] at h'
  have e1 : IntKind.u8.min = 0 := by decide
  have e2 : IntKind.u8.max = 255 := by decide
  omega

theorem cell_form {cs : List Value} {j : Nat} {v : Value} (h : cs[j]? = some v) : (cs.drop j).take 1 = [v] := by
  obtain ⟨hj, e⟩ := List.getElem?_eq_some_iff.1 h
  rw [List.drop_eq_getElem_cons hj, e]
  rfl

set_option maxRecDepth 100000 in
set_option maxHeartbeats 1000000 in
/-- a call, out of its cells -/
theorem call_of {fuel x o : Nat} {cs : List Value} {y : DataW H × List MemPlace} (hl : cs.length = 3) (hc : ∀ j v, cs[j]? = some v → W.cell? ⟨x, o + j, none⟩ = some v) (h : DataW.trod enc Try.prog W 0 (fun _ => true) true fuel 56 cs = some y)
    (hz : ∀ n ∈ y.1.weights Try.prog 56, n ≤ 140737488351232) : ∃ c : Cl, ClAt W x o c := by
  obtain ⟨ys, m, _, hy, _, hyl, hf⟩ := DataW.trod_struct Try.underlying56 h
  match cs, hl with
  | [v0, v1, v2], _ =>
    match ys, hyl with
    | [y0, y1, y2], _ =>
      have hone : ∀ (i : Nat) (f : Field), _ → _ := hone_of (P := Try.prog) (fs := #[{ name := "Do", type := 5, offset := 0, embedded := false, tag := "", pkgPath := "", byteOffset := 0 }, { name := "At", type := 3, offset := 1, embedded := false, tag := "", pkgPath := "", byteOffset := 8 }, { name := "Text", type := 9, offset := 2, embedded := false, tag := "", pkgPath := "", byteOffset := 16 }]) (by kernel_rfl)
      have g0 : DataW.trod enc Try.prog W 0 (fun _ => true) true m 5 [v0] = some y0 := by
        have h1 := hf 0 _ rfl
        rw [(hone 0 _ rfl).2] at h1
        exact h1
      have g1 : DataW.trod enc Try.prog W 0 (fun _ => true) true m 3 [v1] = some y1 := by
        have h1 := hf 1 _ rfl
        rw [(hone 1 _ rfl).2] at h1
        exact h1
      have g2 : DataW.trod enc Try.prog W 0 (fun _ => true) true m 9 [v2] = some y2 := by
        have h1 := hf 2 _ rfl
        rw [(hone 2 _ rfl).2] at h1
        exact h1
      obtain ⟨n0, e0, _, w0⟩ := DataW.trod_int Try.underlying5 g0
      obtain ⟨n1, e1, _, w1⟩ := DataW.trod_int Try.underlying3 g1
      obtain ⟨s2, e2, x2, _⟩ := DataW.trod_string Try.underlying9 g2
      simp only [List.cons.injEq, and_true] at e0 e1 e2
      subst e0 e1 e2
      have hd : y.1 = .agg [y0.1, y1.1, y2.1] := by
        simp only [Prod.ext_iff] at hy
        rw [hy.1]; rfl
      have hw : ∀ n ∈ DataW.weightsEach Try.prog [5, 3, 9] [y0.1, y1.1, y2.1], n ≤ 140737488351232 := by
        intro n hn
        refine hz n ?_
        rw [hd]
        simp only [DataW.weights, Try.underlying56]
        exact hn
      have hs2 : s2.size ≤ 140737488351232 := by
        have := hw s2.data.toList.length (DataW.weights_mem_each (j := 2) rfl rfl _ (by rw [x2]; simp [DataW.weights]))
        exact this
      have i0 := wf_u8 w0
      have i1 := wf_i64 w1
      exact ⟨⟨n0, n1, s2⟩, hc 0 _ rfl, hc 1 _ rfl, hc 2 _ rfl, i0, i1, hs2⟩

set_option maxRecDepth 100000 in
/-- a slice of calls -/
theorem calls_of {B : Nat} {v : Value} {d : DataW H} {p : List MemPlace} (hv : Value.okWide Try.prog W .any B 48 v) (h : DataW.Trod enc Try.prog W 0 (fun _ => true) true 48 v d p)
    (hz : ∀ n ∈ d.weights Try.prog 48, n ≤ 140737488351232) : ∃ l : List Cl, IsCalls W v l ∧ l.length ≤ 140737488351232 := by
  obtain ⟨a, len, cap, rfl⟩ := okWide_slice Try.underlying48 hv
  obtain ⟨fuel, hf⟩ := h
  have h7 : Try.prog.cellsOf 56 = 3 := by kernel_rfl
  have hb : 1 ≤ Try.prog.bytesOf 56 := by
    have : Try.prog.bytesOf 56 = 32 := by kernel_rfl
    omega
  rcases open_slice Try.underlying48 hf with ⟨h1, _⟩ | ⟨a', len', cap', m, n, D, Pl, h1, _, hl, _, hm, hx, hi⟩
  · simp [Value.cells] at h1
    obtain ⟨rfl, rfl, rfl⟩ := h1
    exact ⟨[], ⟨none, 0, rfl, by simp⟩, by simp⟩
  · simp [Value.cells] at h1
    obtain ⟨rfl, rfl, rfl⟩ := h1
    simp only [if_true] at hm
    obtain rfl := hm
    have hd : d = .slice ((List.range len).map D) ((List.range (m - len)).map fun j => D (len + j)) := congrArg Prod.fst hx
    have hw : ∀ i, i < len → ∀ n ∈ (D i).weights Try.prog 56, n ≤ 140737488351232 := fun i hlt n hn => hz n (by
      rw [hd]
      simp only [DataW.weights, Try.underlying48]
      exact List.mem_cons_of_mem _ (List.mem_append_left _ (weights_all (List.mem_map.2 ⟨i, by simpa using hlt, rfl⟩) n hn)))
    have hlen : len ≤ 140737488351232 := by
      have := hz ((((List.range len).map D).length + ((List.range (m - len)).map fun j => D (len + j)).length) * Try.prog.bytesOf 56) (by
        rw [hd]
        simp only [DataW.weights, Try.underlying48]
        exact List.mem_cons_self ..)
      simp at this
      have h2 : len * 1 ≤ (len + (m - len)) * Try.prog.bytesOf 56 := Nat.mul_le_mul (by omega) hb
      omega
    have hsp : ∀ i, i < len → a'.spot = none := fun i hlt => by
      obtain ⟨cs, hcs, _⟩ := hi 0 (by omega)
      rw [h7] at hcs
      obtain ⟨_, hl7, hat⟩ := World.cells?_some hcs
      have h0 := hat 0 (by omega)
      obtain ⟨c0, hc0⟩ : ∃ c0, cs[0]? = some c0 := ⟨cs[0]'(by omega), List.getElem?_eq_getElem (by omega)⟩
      rw [hc0] at h0
      obtain ⟨x, o, sp⟩ := a'
      cases sp with
      | none => rfl
      | some s => simp [Addr.add, World.cell?] at h0; split at h0 <;> simp at h0
    have each : ∀ i, i < len → ∃ c : Cl, ClAt W a'.block (a'.off + i * 3) c := fun i hlt => by
      obtain ⟨cs, hcs, ht⟩ := hi i (by omega)
      rw [h7] at hcs
      obtain ⟨_, hl7, hat⟩ := World.cells?_some hcs
      refine call_of (y := (D i, Pl i)) hl7 (fun j u hu => ?_) ht (hw i hlt)
      have hj : j < 3 := by rw [← hl7]; exact (List.getElem?_eq_some_iff.1 hu).1
      have := hat j hj
      rw [hu] at this
      have hs := hsp i hlt
      obtain ⟨x, o, sp⟩ := a'
      simp at hs
      subst hs
      rw [Addr.add_mid, Addr.add_mid] at this
      exact this
    obtain ⟨f, hfc⟩ := choose_lt each
    refine ⟨(List.range len).map f, ⟨some a', m, by simp, fun i c hc => ?_⟩, by simpa using hlen⟩
    simp only [List.getElem?_map, Option.map_eq_some_iff] at hc
    obtain ⟨i', h3, rfl⟩ := hc
    obtain ⟨hlt, e⟩ := List.getElem?_eq_some_iff.1 h3
    simp at hlt e
    subst e
    have hs := hsp i hlt
    have hc := hfc i hlt
    obtain ⟨x, o, sp⟩ := a'
    simp at hs
    subst hs
    exact ⟨x, o, rfl, hc⟩
end
end Go.Proofs.Ytehfclgngkhcpaa.Slot
