/-
  Slices of elements of any shape, that come in (any stage).
  Ops, and lists of them, that come in.
-/
import Derived.Deep.Slices
import Derived.Deep.Fields
import Derived.ChangeSame
import Derived.SizedLaws
import Derived.OpenShut
import Derived.Test.YtfcibccipkokoaaZ4
namespace Go.Proofs.Ytfcibccipkokoaa.Seq
open Go.RowKit Go.ChangeShapes Go.WideShapes Go.Deep

section
variable {H : Type} {enc : TypeId × Value → H} {W : World}

theorem weights_all {P : Program} {e : TypeId} : ∀ {l : List (DataW H)} {d : DataW H}, d ∈ l → ∀ n ∈ d.weights P e, n ∈ DataW.weightsAll P e l
  | [], _, h, _, _ => by cases h
  | x :: r, d, h, n, hn => by
    simp only [DataW.weightsAll, List.mem_append]
    rcases List.mem_cons.1 h with rfl | h
    · exact .inl hn
    · exact .inr (weights_all h n hn)
theorem nat_of {n : Int} (h : 0 ≤ n) : ∃ m : Nat, n = (m : Int) := ⟨n.toNat, by omega⟩
theorem slice_of {v : Value} {fuel : Nat} {y : DataW H × List MemPlace} {T e : TypeId} (hu : Try.prog.underlying T = some (.slice e)) (h : DataW.trod enc Try.prog W 0 (fun _ => true) true fuel T [v] = some y) : ∃ a n c, v = .slice a n c := by
  rcases open_slice hu h with ⟨h1, _⟩ | ⟨a', len', cap', m, n, D, Pl, h1, _⟩
  · simp at h1
    exact ⟨_, _, _, h1⟩
  · simp at h1
    exact ⟨_, _, _, h1⟩

/-- a slice of elements that are read off their cells -/
theorem is_arg {α : Type} [Inhabited α] (S : Shp Try.prog α) {fuel : Nat} {v : Value} {d : DataW H × List MemPlace} (hf : DataW.trod enc Try.prog W 0 (fun _ => true) true fuel S.t [v] = some d)
    (hb : 1 ≤ Try.prog.bytesOf S.e) (hk : Try.prog.cellsOf S.e = S.k) (Pr : α → Prop)
    (elem : ∀ (cs : List Value) (m : Nat) (y : DataW H × List MemPlace), cs.length = S.k → DataW.trod enc Try.prog W 0 (fun _ => true) true m S.e cs = some y → (∀ n ∈ y.1.weights Try.prog S.e, n ≤ 140737488351232) → ∃ x, cs = S.cells x ∧ Pr x)
    (hz : ∀ n ∈ d.1.weights Try.prog S.t, n ≤ 140737488351232) : ∃ l : List α, Is S W v l ∧ l.length ≤ 140737488351232 ∧ ∀ x ∈ l, Pr x := by
  obtain ⟨a, len, cap, rfl⟩ := slice_of S.under hf
  have hkp := S.kpos
  rcases open_slice S.under hf with ⟨h1, _⟩ | ⟨a', len', cap', m, n, D, Pl, h1, _, hl, _, hm, hx, hi⟩
  · simp at h1
    obtain ⟨rfl, rfl, rfl⟩ := h1
    exact ⟨[], Is.nil W, by simp, fun x h => by cases h⟩
  · simp at h1
    obtain ⟨rfl, rfl, rfl⟩ := h1
    simp only [if_true] at hm
    obtain rfl := hm
    have hd : d.1 = .slice ((List.range len).map D) ((List.range (m - len)).map fun j => D (len + j)) := congrArg Prod.fst hx
    have hlen : len ≤ 140737488351232 := by
      have := hz ((((List.range len).map D).length + ((List.range (m - len)).map fun j => D (len + j)).length) * Try.prog.bytesOf S.e) (by
        rw [hd]
        simp only [DataW.weights, S.under]
        exact List.mem_cons_self ..)
      simp at this
      have h2 : len * 1 ≤ (len + (m - len)) * Try.prog.bytesOf S.e := Nat.mul_le_mul (by omega) hb
      omega
    have hsp : 0 < len → a'.spot = none := fun hlt => by
      obtain ⟨cs, hcs, _⟩ := hi 0 (by omega)
      rw [hk] at hcs
      obtain ⟨_, hl7, hat⟩ := World.cells?_some hcs
      have h0 := hat 0 (by omega)
      obtain ⟨c0, hc0⟩ : ∃ c0, cs[0]? = some c0 := ⟨cs[0]'(by omega), List.getElem?_eq_getElem (by omega)⟩
      rw [hc0] at h0
      obtain ⟨x, o, sp⟩ := a'
      cases sp with
      | none => rfl
      | some s => simp [Addr.add, World.cell?] at h0; split at h0 <;> simp at h0
    have each : ∀ i, i < len → ∃ x : α, (∀ j u, (S.cells x)[j]? = some u → W.cell? ⟨a'.block, a'.off + (i * S.k + j), none⟩ = some u) ∧ Pr x := fun i hlt => by
      obtain ⟨cs, hcs, ht⟩ := hi i (by omega)
      rw [hk] at hcs
      obtain ⟨_, hl7, hat⟩ := World.cells?_some hcs
      obtain ⟨x, hx1, hx2⟩ := elem cs _ _ hl7 ht (fun q hq => hz q (by
        rw [hd]
        simp only [DataW.weights, S.under]
        exact List.mem_cons_of_mem _ (List.mem_append_left _ (weights_all (List.mem_map.2 ⟨i, List.mem_range.2 hlt, rfl⟩) q hq))))
      refine ⟨x, fun j u hu => ?_, hx2⟩
      rw [← hx1] at hu
      have hj : j < S.k := by rw [← hl7]; exact (List.getElem?_eq_some_iff.1 hu).1
      have := hat j hj
      rw [hu] at this
      have hs := hsp (by omega)
      obtain ⟨b, o, sp⟩ := a'
      simp at hs
      subst hs
      rw [Addr.add_mid, Addr.add_mid, Nat.add_assoc] at this
      exact this
    obtain ⟨f, hfc⟩ := choose_lt each
    refine ⟨(List.range len).map f, ⟨some a', m, by simp, by simpa using hl, (fun h => by cases h), ?_⟩, by simpa using hlen, fun x hx => ?_⟩
    · by_cases h0 : len = 0
      · subst h0; exact .inl rfl
      · have hs := hsp (by omega)
        obtain ⟨b, o, sp⟩ := a'
        simp at hs
        subst hs
        have hat : ∀ i, i < len → ∀ j u, (S.cells (f i))[j]? = some u → W.cell? ⟨b, o + (i * S.k + j), none⟩ = some u := fun i hi2 => (hfc i hi2).1
        refine .inr ⟨b, o, rfl, ?_, fun j u hu => ?_⟩
        · have hz0 : 0 < (S.cells (f 0)).length := by rw [S.len]; exact hkp
          exact World.block_lt_of_cell? _ _ (hat 0 (by omega) 0 _ (List.getElem?_eq_getElem hz0))
        · have hj := (List.getElem?_eq_some_iff.1 hu).1
          rw [all_len, List.length_map, List.length_range] at hj
          have hq : j / S.k < len := (Nat.div_lt_iff_lt_mul hkp).2 hj
          have hr : j % S.k < S.k := Nat.mod_lt _ hkp
          have e : j / S.k * S.k + j % S.k = j := by rw [Nat.mul_comm]; exact Nat.div_add_mod ..
          have h2 := all_at S ((List.range len).map f) (j / S.k) (f (j / S.k)) (by rw [List.getElem?_map, List.getElem?_range hq]; rfl) (j % S.k) hr
          rw [e, hu] at h2
          have := hat (j / S.k) hq (j % S.k) u h2.symm
          rw [e] at this
          exact this
    · obtain ⟨i, hi2, rfl⟩ := List.mem_map.1 hx
      exact (hfc i (List.mem_range.1 hi2)).2

set_option maxRecDepth 100000 in
/-- texts that come in -/
theorem strs_in {fuel : Nat} {v : Value} {d : DataW H × List MemPlace} (hf : DataW.trod enc Try.prog W 0 (fun _ => true) true fuel 34 [v] = some d) (hz : ∀ n ∈ d.1.weights Try.prog 34, n ≤ 140737488351232) :
    ∃ l : List ByteArray, Is strS W v l ∧ l.length ≤ 140737488351232 ∧ ∀ x ∈ l, x.size ≤ 140737488351232 := by
  haveI : Inhabited ByteArray := ⟨⟨#[]⟩⟩
  refine is_arg strS hf (by have : Try.prog.bytesOf 9 = 16 := by kernel_rfl
                            exact (show 1 ≤ Try.prog.bytesOf 9 by omega)) (by kernel_rfl) (fun s => s.size ≤ 140737488351232) (fun cs m y hl ht hw => ?_) hz
  obtain ⟨s, e, x, _⟩ := DataW.trod_string Try.underlying9 ht
  exact ⟨s, e, hw _ (by rw [x]; simp [DataW.weights])⟩
end
end Go.Proofs.Ytfcibccipkokoaa.Seq

namespace Go.Proofs.Ytfcibccipkokoaa.Op
open Go.RowKit Go.ChangeShapes Go.WideShapes Go.Deep
open Go.Proofs.Ytfcibccipkokoaa.Seq (strS Shp Is is_arg strs_in nat_of slice_of)

section
variable {H : Type} {enc : TypeId × Value → H} {W : World}
set_option maxRecDepth 100000 in
set_option maxHeartbeats 2000000 in
/-- an op, out of its cells -/
theorem op_in {fuel : Nat} {cs : List Value} {y : DataW H × List MemPlace} (hl : cs.length = 9) (h : DataW.trod enc Try.prog W 0 (fun _ => true) true fuel 36 cs = some y)
    (hz : ∀ n ∈ y.1.weights Try.prog 36, n ≤ 140737488351232) : ∃ (o : O) (u : Value), cs = oL (o, u) ∧ In W o u := by
  obtain ⟨ys, m, _, hy, _, hyl, hf⟩ := DataW.trod_struct Try.underlying36 h
  have k_sstring : Try.prog.cellsOf 34 = 1 := by kernel_rfl
  have k_int : Try.prog.cellsOf 3 = 1 := by kernel_rfl
  have k_string : Try.prog.cellsOf 9 = 1 := by kernel_rfl
  have k_uint32 : Try.prog.cellsOf 33 = 1 := by kernel_rfl
  have k_uint8 : Try.prog.cellsOf 5 = 1 := by kernel_rfl
  match cs, hl with
  | [v0, v1, v2, v3, v4, v5, v6, v7, v8], _ =>
    match ys, hyl with
    | [y0, y1, y2, y3, y4, y5, y6, y7, y8], _ =>
      have g0 : DataW.trod enc Try.prog W 0 (fun _ => true) true m 5 [v0] = some y0 := by
        have h1 : DataW.trod enc Try.prog W 0 (fun _ => true) true m 5 (List.take (Try.prog.cellsOf 5) (List.drop 0 [v0, v1, v2, v3, v4, v5, v6, v7, v8])) = some y0 := hf 0 _ rfl
        rw [k_uint8] at h1
        exact h1
      have g1 : DataW.trod enc Try.prog W 0 (fun _ => true) true m 33 [v1] = some y1 := by
        have h1 : DataW.trod enc Try.prog W 0 (fun _ => true) true m 33 (List.take (Try.prog.cellsOf 33) (List.drop 1 [v0, v1, v2, v3, v4, v5, v6, v7, v8])) = some y1 := hf 1 _ rfl
        rw [k_uint32] at h1
        exact h1
      have g2 : DataW.trod enc Try.prog W 0 (fun _ => true) true m 3 [v2] = some y2 := by
        have h1 : DataW.trod enc Try.prog W 0 (fun _ => true) true m 3 (List.take (Try.prog.cellsOf 3) (List.drop 2 [v0, v1, v2, v3, v4, v5, v6, v7, v8])) = some y2 := hf 2 _ rfl
        rw [k_int] at h1
        exact h1
      have g3 : DataW.trod enc Try.prog W 0 (fun _ => true) true m 3 [v3] = some y3 := by
        have h1 : DataW.trod enc Try.prog W 0 (fun _ => true) true m 3 (List.take (Try.prog.cellsOf 3) (List.drop 3 [v0, v1, v2, v3, v4, v5, v6, v7, v8])) = some y3 := hf 3 _ rfl
        rw [k_int] at h1
        exact h1
      have g4 : DataW.trod enc Try.prog W 0 (fun _ => true) true m 9 [v4] = some y4 := by
        have h1 : DataW.trod enc Try.prog W 0 (fun _ => true) true m 9 (List.take (Try.prog.cellsOf 9) (List.drop 4 [v0, v1, v2, v3, v4, v5, v6, v7, v8])) = some y4 := hf 4 _ rfl
        rw [k_string] at h1
        exact h1
      have g5 : DataW.trod enc Try.prog W 0 (fun _ => true) true m 34 [v5] = some y5 := by
        have h1 : DataW.trod enc Try.prog W 0 (fun _ => true) true m 34 (List.take (Try.prog.cellsOf 34) (List.drop 5 [v0, v1, v2, v3, v4, v5, v6, v7, v8])) = some y5 := hf 5 _ rfl
        rw [k_sstring] at h1
        exact h1
      have g6 : DataW.trod enc Try.prog W 0 (fun _ => true) true m 5 [v6] = some y6 := by
        have h1 : DataW.trod enc Try.prog W 0 (fun _ => true) true m 5 (List.take (Try.prog.cellsOf 5) (List.drop 6 [v0, v1, v2, v3, v4, v5, v6, v7, v8])) = some y6 := hf 6 _ rfl
        rw [k_uint8] at h1
        exact h1
      have g7 : DataW.trod enc Try.prog W 0 (fun _ => true) true m 5 [v7] = some y7 := by
        have h1 : DataW.trod enc Try.prog W 0 (fun _ => true) true m 5 (List.take (Try.prog.cellsOf 5) (List.drop 7 [v0, v1, v2, v3, v4, v5, v6, v7, v8])) = some y7 := hf 7 _ rfl
        rw [k_uint8] at h1
        exact h1
      have g8 : DataW.trod enc Try.prog W 0 (fun _ => true) true m 33 [v8] = some y8 := by
        have h1 : DataW.trod enc Try.prog W 0 (fun _ => true) true m 33 (List.take (Try.prog.cellsOf 33) (List.drop 8 [v0, v1, v2, v3, v4, v5, v6, v7, v8])) = some y8 := hf 8 _ rfl
        rw [k_uint32] at h1
        exact h1
      obtain ⟨n0, e0, _, w0⟩ := DataW.trod_int Try.underlying5 g0
      obtain ⟨n1, e1, _, w1⟩ := DataW.trod_int Try.underlying33 g1
      obtain ⟨n2, e2, _, w2⟩ := DataW.trod_int Try.underlying3 g2
      obtain ⟨n3, e3, _, w3⟩ := DataW.trod_int Try.underlying3 g3
      obtain ⟨n6, e6, _, w6⟩ := DataW.trod_int Try.underlying5 g6
      obtain ⟨n7, e7, _, w7⟩ := DataW.trod_int Try.underlying5 g7
      obtain ⟨n8, e8, _, w8⟩ := DataW.trod_int Try.underlying33 g8
      obtain ⟨s4, e4, x4, _⟩ := DataW.trod_string Try.underlying9 g4
      simp only [List.cons.injEq, and_true] at e0 e1 e2 e3 e4 e6 e7 e8
      subst e0 e1 e2 e3 e4 e6 e7 e8
      have hd : y.1 = .agg [y0.1, y1.1, y2.1, y3.1, y4.1, y5.1, y6.1, y7.1, y8.1] := by
        simp only [Prod.ext_iff] at hy
        rw [hy.1]; rfl
      have hw : ∀ n ∈ DataW.weightsEach Try.prog [5, 33, 3, 3, 9, 34, 5, 5, 33] [y0.1, y1.1, y2.1, y3.1, y4.1, y5.1, y6.1, y7.1, y8.1], n ≤ 140737488351232 := by
        intro n hn
        refine hz n ?_
        rw [hd]
        simp only [DataW.weights, Try.underlying36]
        exact hn
      have q4 : s4.size ≤ 140737488351232 := hw _ (DataW.weights_mem_each (j := 4) rfl rfl _ (by rw [x4]; simp [DataW.weights]))
      obtain ⟨R, ri, rl, re⟩ := strs_in g5 fun n hn => hw n (DataW.weights_mem_each (j := 5) rfl rfl _ hn)
      have b0 := bounds_u8 w0
      have b1 := bounds_u32 w1
      have b2 := bounds_i64 w2
      have b3 := bounds_i64 w3
      have b6 := bounds_u8 w6
      have b7 := bounds_u8 w7
      have b8 := bounds_u32 w8
      obtain ⟨m0, rfl⟩ := nat_of b0.1
      obtain ⟨m1, rfl⟩ := nat_of b1.1
      obtain ⟨m6, rfl⟩ := nat_of b6.1
      obtain ⟨m7, rfl⟩ := nat_of b7.1
      obtain ⟨m8, rfl⟩ := nat_of b8.1
      refine ⟨⟨m0, m1, n2, n3, s4, R, m6, m7, m8⟩, v5, rfl, ⟨⟨?_, ?_, ?_, ?_, ?_⟩, b2, b3, q4, ri, rl, re⟩⟩
      · show m0 < 256; omega
      · show m1 < 4294967296; omega
      · show m6 < 256; omega
      · show m7 < 256; omega
      · show m8 < 4294967296; omega

instance : Inhabited Sl := ⟨⟨.slice none 0 0, rfl⟩⟩
instance : Inhabited O := ⟨O.zero⟩
set_option maxRecDepth 100000 in
/-- a list of ops -/
theorem ops_in {fuel : Nat} {v : Value} {d : DataW H × List MemPlace} (hf : DataW.trod enc Try.prog W 0 (fun _ => true) true fuel 22 [v] = some d) (hz : ∀ n ∈ d.1.weights Try.prog 22, n ≤ 140737488351232) :
    ∃ l : List O, Ops W v l ∧ l.length ≤ 140737488351232 := by
  obtain ⟨q, h1, h2, h3⟩ := is_arg opS hf (by have : Try.prog.bytesOf 36 = 72 := by kernel_rfl
                                              exact (show 1 ≤ Try.prog.bytesOf 36 by omega)) (by kernel_rfl) (fun x => In W x.1 x.2.1) (fun cs m y hl ht hw => by
    obtain ⟨o, u, e, hi⟩ := op_in hl ht hw
    exact ⟨(o, ⟨u, hi.one⟩), e, hi⟩) hz
  exact ⟨q.map (·.1), ⟨q, rfl, h1, h3⟩, by rw [List.length_map]; exact h2⟩
set_option maxRecDepth 100000 in
theorem ops_of {B : Nat} {v : Value} {d : DataW H} {p : List MemPlace} (hv : Value.okWide Try.prog W .any B 22 v) (h : DataW.Trod enc Try.prog W 0 (fun _ => true) true 22 v d p)
    (hz : ∀ n ∈ d.weights Try.prog 22, n ≤ 140737488351232) : ∃ l : List O, Ops W v l ∧ l.length ≤ 140737488351232 := by
  obtain ⟨a, len, cap, rfl⟩ := okWide_slice Try.underlying22 hv
  obtain ⟨fuel, hf0⟩ := h
  exact ops_in hf0 hz
set_option maxRecDepth 100000 in
/-- an op, as a value -/
theorem op_of {B : Nat} {v : Value} {d : DataW H} {p : List MemPlace} (hv : Value.okWide Try.prog W .any B 36 v) (h : DataW.Trod enc Try.prog W 0 (fun _ => true) true 36 v d p)
    (hz : ∀ n ∈ d.weights Try.prog 36, n ≤ 140737488351232) : ∃ (o : O) (u : Value), v = oV o u ∧ In W o u := by
  obtain ⟨cs, rfl, hcs⟩ := okWide_struct Try.underlying36 hv
  obtain ⟨fuel, hf0⟩ := h
  have hc9 : cs.size = 9 := hcs.trans (by kernel_rfl)
  obtain ⟨l, rfl⟩ : ∃ l : List Value, cs = l.toArray := ⟨cs.toList, by simp⟩
  have hl9 : l.length = 9 := by simpa using hc9
  obtain ⟨o, u, e, hi⟩ := op_in (y := (d, p)) hl9 hf0 hz
  refine ⟨o, u, ?_, hi⟩
  rw [e]
  rfl
theorem choose_list {α β : Type} {R : α → β → Prop} : ∀ (q : List α), (∀ x ∈ q, ∃ y, R x y) → ∃ l : List β, q.length = l.length ∧ ∀ i (hi : i < q.length) (hj : i < l.length), R q[i] l[i] := by
  intro q
  induction q with
  | nil => intro _; exact ⟨[], rfl, fun i hi => by simp at hi⟩
  | cons x q ih =>
    intro h
    obtain ⟨l, h1, h2⟩ := ih (fun y hy => h y (List.mem_cons_of_mem _ hy))
    obtain ⟨y, hy⟩ := h x (List.mem_cons_self ..)
    refine ⟨y :: l, by simp [h1], fun i hi hj => ?_⟩
    cases i with
    | zero => exact hy
    | succ i => exact h2 i (by simpa using hi) (by simpa using hj)
end
end Go.Proofs.Ytfcibccipkokoaa.Op
