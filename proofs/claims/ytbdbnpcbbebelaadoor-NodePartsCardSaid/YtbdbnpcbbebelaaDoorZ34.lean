/-
  Rows that come in.
-/
import Derived.Test.YtbdbnpcbbebelaaDoorZ25
import Derived.Test.YtbdbnpcbbebelaaDoorZ33
import Derived.Test.YtbdbnpcbbebelaaDoorZ3
namespace Go.Proofs.YtbdbnpcbbebelaaDoor.Node
open Go.RowKit Go.ChangeShapes Go.WideShapes Go.Deep
open Go.Proofs.YtbdbnpcbbebelaaDoor.Row (Rw nat_of)
open Go.Proofs.YtbdbnpcbbebelaaDoor.Page (weights_all)

instance : Inhabited Rw := ⟨Rw.zero⟩
section
variable {H : Type} {enc : TypeId × Value → H} {W : World}

set_option maxRecDepth 100000 in
set_option maxHeartbeats 1000000 in
/-- a row, out of its cells in memory -/
theorem row_in {fuel x o : Nat} {cs : List Value} {y : DataW H × List MemPlace} (hl : cs.length = 7) (hc : ∀ j v, cs[j]? = some v → W.cell? ⟨x, o + j, none⟩ = some v) (h : DataW.trod enc Tryd.prog W 0 (fun _ => true) true fuel 68 cs = some y)
    (hz : ∀ n ∈ y.1.weights Tryd.prog 68, n ≤ 140737488351232) : ∃ r : Rw, RwAt W x o r := by
  obtain ⟨ys, m, _, hy, _, hyl, hf⟩ := DataW.trod_struct Tryd.underlying68 h
  have k9 : Tryd.prog.cellsOf 9 = 1 := by kernel_rfl
  have k4 : Tryd.prog.cellsOf 4 = 1 := by kernel_rfl
  have k22 : Tryd.prog.cellsOf 23 = 1 := by kernel_rfl
  have k26 : Tryd.prog.cellsOf 66 = 2 := by kernel_rfl
  have k3 : Tryd.prog.cellsOf 3 = 1 := by kernel_rfl
  have k23 : Tryd.prog.cellsOf 22 = 1 := by kernel_rfl
  have k24 : Tryd.prog.cellsOf 64 = 1 := by kernel_rfl
  match cs, hl with
  | [v0, v1, v2, v3, v4, v5, v6], _ =>
    match ys, hyl with
    | [y0, y1, y2, y3, y4, y5], _ =>
      have g0 : DataW.trod enc Tryd.prog W 0 (fun _ => true) true m 9 [v0] = some y0 := by
        have h1 : DataW.trod enc Tryd.prog W 0 (fun _ => true) true m 9 (List.take (Tryd.prog.cellsOf 9) (List.drop 0 [v0, v1, v2, v3, v4, v5, v6])) = some y0 := hf 0 _ rfl
        rw [k9] at h1
        exact h1
      have g1 : DataW.trod enc Tryd.prog W 0 (fun _ => true) true m 4 [v1] = some y1 := by
        have h1 : DataW.trod enc Tryd.prog W 0 (fun _ => true) true m 4 (List.take (Tryd.prog.cellsOf 4) (List.drop 1 [v0, v1, v2, v3, v4, v5, v6])) = some y1 := hf 1 _ rfl
        rw [k4] at h1
        exact h1
      have g2 : DataW.trod enc Tryd.prog W 0 (fun _ => true) true m 23 [v2] = some y2 := by
        have h1 : DataW.trod enc Tryd.prog W 0 (fun _ => true) true m 23 (List.take (Tryd.prog.cellsOf 23) (List.drop 2 [v0, v1, v2, v3, v4, v5, v6])) = some y2 := hf 2 _ rfl
        rw [k22] at h1
        exact h1
      have g3 : DataW.trod enc Tryd.prog W 0 (fun _ => true) true m 66 [v3, v4] = some y3 := by
        have h1 : DataW.trod enc Tryd.prog W 0 (fun _ => true) true m 66 (List.take (Tryd.prog.cellsOf 66) (List.drop 3 [v0, v1, v2, v3, v4, v5, v6])) = some y3 := hf 3 _ rfl
        rw [k26] at h1
        exact h1
      have g4 : DataW.trod enc Tryd.prog W 0 (fun _ => true) true m 9 [v5] = some y4 := by
        have h1 : DataW.trod enc Tryd.prog W 0 (fun _ => true) true m 9 (List.take (Tryd.prog.cellsOf 9) (List.drop 5 [v0, v1, v2, v3, v4, v5, v6])) = some y4 := hf 4 _ rfl
        rw [k9] at h1
        exact h1
      have g5 : DataW.trod enc Tryd.prog W 0 (fun _ => true) true m 3 [v6] = some y5 := by
        have h1 : DataW.trod enc Tryd.prog W 0 (fun _ => true) true m 3 (List.take (Tryd.prog.cellsOf 3) (List.drop 6 [v0, v1, v2, v3, v4, v5, v6])) = some y5 := hf 5 _ rfl
        rw [k3] at h1
        exact h1
      obtain ⟨zs, m2, _, _, _, hzl, hg⟩ := DataW.trod_struct Tryd.underlying66 g3
      match zs, hzl with
      | [z0, z1], _ =>
        have g6 : DataW.trod enc Tryd.prog W 0 (fun _ => true) true m2 22 [v3] = some z0 := by
          have h1 : DataW.trod enc Tryd.prog W 0 (fun _ => true) true m2 22 (List.take (Tryd.prog.cellsOf 22) (List.drop 0 [v3, v4])) = some z0 := hg 0 _ rfl
          rw [k23] at h1
          exact h1
        have g7 : DataW.trod enc Tryd.prog W 0 (fun _ => true) true m2 64 [v4] = some z1 := by
          have h1 : DataW.trod enc Tryd.prog W 0 (fun _ => true) true m2 64 (List.take (Tryd.prog.cellsOf 64) (List.drop 1 [v3, v4])) = some z1 := hg 1 _ rfl
          rw [k24] at h1
          exact h1
        obtain ⟨s0, e0, x0, _⟩ := DataW.trod_string Tryd.underlying9 g0
        obtain ⟨b1, e1, _⟩ := DataW.trod_bool Tryd.underlying4 g1
        obtain ⟨n2, e2, _, w2⟩ := DataW.trod_int Tryd.underlying23 g2
        obtain ⟨n3, e3, _, w3⟩ := DataW.trod_int Tryd.underlying22 g6
        obtain ⟨n4, e4, _, w4⟩ := DataW.trod_int Tryd.underlying64 g7
        obtain ⟨s5, e5, x5, _⟩ := DataW.trod_string Tryd.underlying9 g4
        obtain ⟨n6, e6, _, w6⟩ := DataW.trod_int Tryd.underlying3 g5
        simp only [List.cons.injEq, and_true] at e0 e1 e2 e3 e4 e5 e6
        subst e0 e1 e2 e3 e4 e5 e6
        have hd : y.1 = .agg [y0.1, y1.1, y2.1, y3.1, y4.1, y5.1] := by
          simp only [Prod.ext_iff] at hy
          rw [hy.1]; rfl
        have hw : ∀ n ∈ DataW.weightsEach Tryd.prog [9, 4, 23, 66, 9, 3] [y0.1, y1.1, y2.1, y3.1, y4.1, y5.1], n ≤ 140737488351232 := by
          intro n hn
          refine hz n ?_
          rw [hd]
          simp only [DataW.weights, Tryd.underlying68]
          exact hn
        have q0 : s0.size ≤ 140737488351232 := hw _ (DataW.weights_mem_each (j := 0) rfl rfl _ (by rw [x0]; simp [DataW.weights]))
        have q5 : s5.size ≤ 140737488351232 := hw _ (DataW.weights_mem_each (j := 4) rfl rfl _ (by rw [x5]; simp [DataW.weights]))
        have b2 := bounds_u64 w2
        have b3 := bounds_u32 w3
        have b4 := bounds_u16 w4
        have b6 := bounds_i64 w6
        obtain ⟨m2, rfl⟩ := nat_of b2.1
        obtain ⟨m3, rfl⟩ := nat_of b3.1
        obtain ⟨m4, rfl⟩ := nat_of b4.1
        refine ⟨⟨s0, b1, m2, m3, m4, s5, n6⟩, hc 0 _ rfl, hc 1 _ rfl, hc 2 _ rfl, hc 3 _ rfl, hc 4 _ rfl, hc 5 _ rfl, hc 6 _ rfl, ⟨?_, ?_, ?_, ?_, q0, q5⟩⟩
        · show m2 < 18446744073709551616; omega
        · show m3 < 4294967296; omega
        · show m4 < 65536; omega
        · show -9223372036854775808 ≤ n6 ∧ n6 ≤ 9223372036854775807; omega

set_option maxRecDepth 100000 in
/-- a slice of rows -/
theorem rows_arg {B : Nat} {v : Value} {d : DataW H} {p : List MemPlace} (hv : Value.okWide Tryd.prog W .any B 60 v) (h : DataW.Trod enc Tryd.prog W 0 (fun _ => true) true 60 v d p)
    (hz : ∀ n ∈ d.weights Tryd.prog 60, n ≤ 140737488351232) : ∃ l : List Rw, IsRws W v l ∧ l.length ≤ 140737488351232 := by
  obtain ⟨a, len, cap, rfl⟩ := okWide_slice Tryd.underlying60 hv
  obtain ⟨fuel, hf⟩ := h
  have h7 : Tryd.prog.cellsOf 68 = 7 := by kernel_rfl
  have hb : 1 ≤ Tryd.prog.bytesOf 68 := by
    have : Tryd.prog.bytesOf 68 = 64 := by kernel_rfl
    omega
  rcases open_slice Tryd.underlying60 hf with ⟨h1, _⟩ | ⟨a', len', cap', m, n, D, Pl, h1, _, hl, _, hm, hx, hi⟩
  · simp [Value.cells] at h1
    obtain ⟨rfl, rfl, rfl⟩ := h1
    exact ⟨[], ⟨none, 0, rfl, by simp⟩, by simp⟩
  · simp [Value.cells] at h1
    obtain ⟨rfl, rfl, rfl⟩ := h1
    simp only [if_true] at hm
    obtain rfl := hm
    have hd : d = .slice ((List.range len).map D) ((List.range (m - len)).map fun j => D (len + j)) := congrArg Prod.fst hx
    have hw : ∀ i, i < len → ∀ n ∈ (D i).weights Tryd.prog 68, n ≤ 140737488351232 := fun i hlt n hn => hz n (by
      rw [hd]
      simp only [DataW.weights, Tryd.underlying60]
      exact List.mem_cons_of_mem _ (List.mem_append_left _ (weights_all (List.mem_map.2 ⟨i, by simpa using hlt, rfl⟩) n hn)))
    have hlen : len ≤ 140737488351232 := by
      have := hz ((((List.range len).map D).length + ((List.range (m - len)).map fun j => D (len + j)).length) * Tryd.prog.bytesOf 68) (by
        rw [hd]
        simp only [DataW.weights, Tryd.underlying60]
        exact List.mem_cons_self ..)
      simp at this
      have h2 : len * 1 ≤ (len + (m - len)) * Tryd.prog.bytesOf 68 := Nat.mul_le_mul (by omega) hb
      omega
    have hsp : ∀ i, i < len → a'.spot = none := fun i hlt => by
      obtain ⟨cs, hcs, _⟩ := hi 0 (by omega)
      rw [h7] at hcs
      obtain ⟨_, hl7, hat⟩ := World.cells?_some hcs
      have h0 := hat 0 (by omega)
      obtain ⟨c0, hc0⟩ : ∃ c0, cs[0]? = some c0 := ⟨cs[0]'(by omega), List.getElem?_eq_getElem (by omega)⟩
      rw [hc0] at h0
      obtain ⟨x, o, sp⟩ := a'
      cases sp with
      | none => rfl
      | some s => simp [Addr.add, World.cell?] at h0; split at h0 <;> simp at h0
    have each : ∀ i, i < len → ∃ c : Rw, RwAt W a'.block (a'.off + i * 7) c := fun i hlt => by
      obtain ⟨cs, hcs, ht⟩ := hi i (by omega)
      rw [h7] at hcs
      obtain ⟨_, hl7, hat⟩ := World.cells?_some hcs
      refine row_in (y := (D i, Pl i)) hl7 (fun j u hu => ?_) ht (hw i hlt)
      have hj : j < 7 := by rw [← hl7]; exact (List.getElem?_eq_some_iff.1 hu).1
      have := hat j hj
      rw [hu] at this
      have hs := hsp i hlt
      obtain ⟨x, o, sp⟩ := a'
      simp at hs
      subst hs
      rw [Addr.add_mid, Addr.add_mid] at this
      exact this
    obtain ⟨f, hfc⟩ := choose_lt each
    refine ⟨(List.range len).map f, ⟨some a', m, by simp, fun i c hc => ?_⟩, by simpa using hlen⟩
    simp only [List.getElem?_map, Option.map_eq_some_iff] at hc
    obtain ⟨i', h3, rfl⟩ := hc
    obtain ⟨hlt, e⟩ := List.getElem?_eq_some_iff.1 h3
    simp at hlt e
    subst e
    have hs := hsp i hlt
    have hc := hfc i hlt
    obtain ⟨x, o, sp⟩ := a'
    simp at hs
    subst hs
    exact ⟨x, o, rfl, hc⟩
end
end Go.Proofs.YtbdbnpcbbebelaaDoor.Node
