/-
  Rows and entries that come in.
-/
import Derived.Deep.Slices
import Derived.Deep.Fields
import Derived.ChangeSame
import Derived.SizedLaws
import Derived.OpenShut
import Derived.Test.YtbdbnpcbbebelaaDoorZ7
namespace Go.Proofs.YtbdbnpcbbebelaaDoor.Row
open Go.RowKit Go.ChangeShapes Go.WideShapes Go.Deep

section
variable {H : Type} {enc : TypeId × Value → H} {W : World}

theorem nat_of {n : Int} (h : 0 ≤ n) : ∃ m : Nat, n = (m : Int) := ⟨n.toNat, by omega⟩

set_option maxRecDepth 100000 in
set_option maxHeartbeats 1000000 in
/-- a row, out of its cells -/
theorem row_of {B : Nat} {v : Value} {d : DataW H} {p : List MemPlace} (hv : Value.okWide Tryd.prog W .any B 68 v) (h : DataW.Trod enc Tryd.prog W 0 (fun _ => true) true 68 v d p)
    (hz : ∀ n ∈ d.weights Tryd.prog 68, n ≤ 140737488351232) : ∃ r : Rw, v = rwV r ∧ r.wf := by
  obtain ⟨cs, rfl, hcs⟩ := okWide_struct Tryd.underlying68 hv
  obtain ⟨fuel, hf0⟩ := h
  obtain ⟨ys, m, _, hy, _, hyl, hf⟩ := DataW.trod_struct Tryd.underlying68 hf0
  have hc7 : cs.size = 7 := hcs.trans (by kernel_rfl)
  obtain ⟨l, rfl⟩ : ∃ l : List Value, cs = l.toArray := ⟨cs.toList, by simp⟩
  have hl7 : l.length = 7 := by simpa using hc7
  have k9 : Tryd.prog.cellsOf 9 = 1 := by kernel_rfl
  have k4 : Tryd.prog.cellsOf 4 = 1 := by kernel_rfl
  have k22 : Tryd.prog.cellsOf 23 = 1 := by kernel_rfl
  have k26 : Tryd.prog.cellsOf 66 = 2 := by kernel_rfl
  have k3 : Tryd.prog.cellsOf 3 = 1 := by kernel_rfl
  have k23 : Tryd.prog.cellsOf 22 = 1 := by kernel_rfl
  have k24 : Tryd.prog.cellsOf 64 = 1 := by kernel_rfl
  match l, hl7 with
  | [v0, v1, v2, v3, v4, v5, v6], _ =>
    match ys, hyl with
    | [y0, y1, y2, y3, y4, y5], _ =>
      have g0 : DataW.trod enc Tryd.prog W 0 (fun _ => true) true m 9 [v0] = some y0 := by
        have h1 : DataW.trod enc Tryd.prog W 0 (fun _ => true) true m 9 (List.take (Tryd.prog.cellsOf 9) (List.drop 0 [v0, v1, v2, v3, v4, v5, v6])) = some y0 := hf 0 _ rfl
        rw [k9] at h1
        exact h1
      have g1 : DataW.trod enc Tryd.prog W 0 (fun _ => true) true m 4 [v1] = some y1 := by
        have h1 : DataW.trod enc Tryd.prog W 0 (fun _ => true) true m 4 (List.take (Tryd.prog.cellsOf 4) (List.drop 1 [v0, v1, v2, v3, v4, v5, v6])) = some y1 := hf 1 _ rfl
        rw [k4] at h1
        exact h1
      have g2 : DataW.trod enc Tryd.prog W 0 (fun _ => true) true m 23 [v2] = some y2 := by
        have h1 : DataW.trod enc Tryd.prog W 0 (fun _ => true) true m 23 (List.take (Tryd.prog.cellsOf 23) (List.drop 2 [v0, v1, v2, v3, v4, v5, v6])) = some y2 := hf 2 _ rfl
        rw [k22] at h1
        exact h1
      have g3 : DataW.trod enc Tryd.prog W 0 (fun _ => true) true m 66 [v3, v4] = some y3 := by
        have h1 : DataW.trod enc Tryd.prog W 0 (fun _ => true) true m 66 (List.take (Tryd.prog.cellsOf 66) (List.drop 3 [v0, v1, v2, v3, v4, v5, v6])) = some y3 := hf 3 _ rfl
        rw [k26] at h1
        exact h1
      have g4 : DataW.trod enc Tryd.prog W 0 (fun _ => true) true m 9 [v5] = some y4 := by
        have h1 : DataW.trod enc Tryd.prog W 0 (fun _ => true) true m 9 (List.take (Tryd.prog.cellsOf 9) (List.drop 5 [v0, v1, v2, v3, v4, v5, v6])) = some y4 := hf 4 _ rfl
        rw [k9] at h1
        exact h1
      have g5 : DataW.trod enc Tryd.prog W 0 (fun _ => true) true m 3 [v6] = some y5 := by
        have h1 : DataW.trod enc Tryd.prog W 0 (fun _ => true) true m 3 (List.take (Tryd.prog.cellsOf 3) (List.drop 6 [v0, v1, v2, v3, v4, v5, v6])) = some y5 := hf 5 _ rfl
        rw [k3] at h1
        exact h1
      obtain ⟨zs, m2, _, _, _, hzl, hg⟩ := DataW.trod_struct Tryd.underlying66 g3
      match zs, hzl with
      | [z0, z1], _ =>
        have g6 : DataW.trod enc Tryd.prog W 0 (fun _ => true) true m2 22 [v3] = some z0 := by
          have h1 : DataW.trod enc Tryd.prog W 0 (fun _ => true) true m2 22 (List.take (Tryd.prog.cellsOf 22) (List.drop 0 [v3, v4])) = some z0 := hg 0 _ rfl
          rw [k23] at h1
          exact h1
        have g7 : DataW.trod enc Tryd.prog W 0 (fun _ => true) true m2 64 [v4] = some z1 := by
          have h1 : DataW.trod enc Tryd.prog W 0 (fun _ => true) true m2 64 (List.take (Tryd.prog.cellsOf 64) (List.drop 1 [v3, v4])) = some z1 := hg 1 _ rfl
          rw [k24] at h1
          exact h1
        obtain ⟨s0, e0, x0, _⟩ := DataW.trod_string Tryd.underlying9 g0
        obtain ⟨b1, e1, _⟩ := DataW.trod_bool Tryd.underlying4 g1
        obtain ⟨n2, e2, _, w2⟩ := DataW.trod_int Tryd.underlying23 g2
        obtain ⟨n3, e3, _, w3⟩ := DataW.trod_int Tryd.underlying22 g6
        obtain ⟨n4, e4, _, w4⟩ := DataW.trod_int Tryd.underlying64 g7
        obtain ⟨s5, e5, x5, _⟩ := DataW.trod_string Tryd.underlying9 g4
        obtain ⟨n6, e6, _, w6⟩ := DataW.trod_int Tryd.underlying3 g5
        simp only [List.cons.injEq, and_true] at e0 e1 e2 e3 e4 e5 e6
        subst e0 e1 e2 e3 e4 e5 e6
        have hd : d = .agg [y0.1, y1.1, y2.1, y3.1, y4.1, y5.1] := by
          simp only [Prod.ext_iff] at hy
          rw [hy.1]; rfl
        have hw : ∀ n ∈ DataW.weightsEach Tryd.prog [9, 4, 23, 66, 9, 3] [y0.1, y1.1, y2.1, y3.1, y4.1, y5.1], n ≤ 140737488351232 := by
          intro n hn
          refine hz n ?_
          rw [hd]
          simp only [DataW.weights, Tryd.underlying68]
          exact hn
        have q0 : s0.size ≤ 140737488351232 := hw _ (DataW.weights_mem_each (j := 0) rfl rfl _ (by rw [x0]; simp [DataW.weights]))
        have q5 : s5.size ≤ 140737488351232 := hw _ (DataW.weights_mem_each (j := 4) rfl rfl _ (by rw [x5]; simp [DataW.weights]))
        have b2 := bounds_u64 w2
        have b3 := bounds_u32 w3
        have b4 := bounds_u16 w4
        have b6 := bounds_i64 w6
        obtain ⟨m2, rfl⟩ := nat_of b2.1
        obtain ⟨m3, rfl⟩ := nat_of b3.1
        obtain ⟨m4, rfl⟩ := nat_of b4.1
        refine ⟨⟨s0, b1, m2, m3, m4, s5, n6⟩, rfl, ⟨?_, ?_, ?_, ?_, q0, q5⟩⟩
        · show m2 < 18446744073709551616; omega
        · show m3 < 4294967296; omega
        · show m4 < 65536; omega
        · show -9223372036854775808 ≤ n6 ∧ n6 ≤ 9223372036854775807; omega

set_option maxRecDepth 100000 in
set_option maxHeartbeats 1000000 in
/-- an entry, out of its cells -/
theorem entry_of {B : Nat} {v : Value} {d : DataW H} {p : List MemPlace} (hv : Value.okWide Tryd.prog W .any B 73 v) (h : DataW.Trod enc Tryd.prog W 0 (fun _ => true) true 73 v d p)
    (hz : ∀ n ∈ d.weights Tryd.prog 73, n ≤ 140737488351232) : ∃ e : En, v = enV e ∧ e.wf := by
  obtain ⟨cs, rfl, hcs⟩ := okWide_struct Tryd.underlying73 hv
  obtain ⟨fuel, hf0⟩ := h
  obtain ⟨ys, m, _, hy, _, hyl, hf⟩ := DataW.trod_struct Tryd.underlying73 hf0
  have hc2 : cs.size = 2 := hcs.trans (by kernel_rfl)
  obtain ⟨l, rfl⟩ : ∃ l : List Value, cs = l.toArray := ⟨cs.toList, by simp⟩
  have hl2 : l.length = 2 := by simpa using hc2
  have k9 : Tryd.prog.cellsOf 9 = 1 := by kernel_rfl
  have k23 : Tryd.prog.cellsOf 22 = 1 := by kernel_rfl
  match l, hl2 with
  | [v0, v1], _ =>
    match ys, hyl with
    | [y0, y1], _ =>
      have g0 : DataW.trod enc Tryd.prog W 0 (fun _ => true) true m 9 [v0] = some y0 := by
        have h1 : DataW.trod enc Tryd.prog W 0 (fun _ => true) true m 9 (List.take (Tryd.prog.cellsOf 9) (List.drop 0 [v0, v1])) = some y0 := hf 0 _ rfl
        rw [k9] at h1
        exact h1
      have g1 : DataW.trod enc Tryd.prog W 0 (fun _ => true) true m 22 [v1] = some y1 := by
        have h1 : DataW.trod enc Tryd.prog W 0 (fun _ => true) true m 22 (List.take (Tryd.prog.cellsOf 22) (List.drop 1 [v0, v1])) = some y1 := hf 1 _ rfl
        rw [k23] at h1
        exact h1
      obtain ⟨s0, e0, x0, _⟩ := DataW.trod_string Tryd.underlying9 g0
      obtain ⟨n1, e1, _, w1⟩ := DataW.trod_int Tryd.underlying22 g1
      simp only [List.cons.injEq, and_true] at e0 e1
      subst e0 e1
      have hd : d = .agg [y0.1, y1.1] := by
        simp only [Prod.ext_iff] at hy
        rw [hy.1]; rfl
      have hw : ∀ n ∈ DataW.weightsEach Tryd.prog [9, 22] [y0.1, y1.1], n ≤ 140737488351232 := by
        intro n hn
        refine hz n ?_
        rw [hd]
        simp only [DataW.weights, Tryd.underlying73]
        exact hn
      have q0 : s0.size ≤ 140737488351232 := hw _ (DataW.weights_mem_each (j := 0) rfl rfl _ (by rw [x0]; simp [DataW.weights]))
      have b1 := bounds_u32 w1
      obtain ⟨m1, rfl⟩ := nat_of b1.1
      refine ⟨⟨s0, m1⟩, rfl, ⟨q0, ?_⟩⟩
      show m1 < 4294967296; omega
end
end Go.Proofs.YtbdbnpcbbebelaaDoor.Row
