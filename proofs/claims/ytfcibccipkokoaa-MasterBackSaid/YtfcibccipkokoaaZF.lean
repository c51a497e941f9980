/- Masters, and lists of them, that come in. -/
import Derived.Test.YtfcibccipkokoaaGO
import Derived.Test.YtfcibccipkokoaaZC1
namespace Go.Proofs.Ytfcibccipkokoaa.Mas
open Go.RowKit Go.ChangeShapes Go.WideShapes Go.Deep
open Go.Proofs.Ytfcibccipkokoaa.Seq (Shp Is is_arg nat_of)

instance : Inhabited Ms := ⟨Ms.zero⟩
set_option maxRecDepth 100000 in
/-- masters, in a slice -/
def msS : Shp Try.prog Ms where
  t := 55
  e := 40
  k := 5
  zero := .agg #[.int .u64 0, .int .u64 0, .int .u64 0, .int .u64 0, .bool false]
  bytes := 40
  cells := fun m => [.int .u64 (m.count : Int), .int .u64 (m.life : Int), .int .u64 (m.check : Int), .int .u64 (m.first : Int), .bool m.clean]
  under := Try.underlying55
  info := by kernel_rfl
  zk := rfl
  kpos := by decide
  len := fun _ => rfl
  one := fun x u hu => by
    simp only [List.mem_cons, List.not_mem_nil, or_false] at hu
    rcases hu with rfl | rfl | rfl | rfl | rfl
    all_goals rfl
  small := by decide
  elem := by kernel_rfl
  size := fun _ => by kernel_rfl

section
variable {H : Type} {enc : TypeId × Value → H} {W : World}
set_option maxRecDepth 100000 in
set_option maxHeartbeats 2000000 in
/-- a master, out of its cells -/
theorem ms_in {fuel : Nat} {cs : List Value} {y : DataW H × List MemPlace} (hl : cs.length = 5) (h : DataW.trod enc Try.prog W 0 (fun _ => true) true fuel 40 cs = some y) : ∃ m : Ms, cs = msS.cells m ∧ m.wf := by
  obtain ⟨ys, m, _, hy, _, hyl, hf⟩ := DataW.trod_struct Try.underlying40 h
  have k_u64 : Try.prog.cellsOf 38 = 1 := by kernel_rfl
  have k_bool : Try.prog.cellsOf 4 = 1 := by kernel_rfl
  match cs, hl with
  | [v0, v1, v2, v3, v4], _ =>
    match ys, hyl with
    | [y0, y1, y2, y3, y4], _ =>
      have g0 : DataW.trod enc Try.prog W 0 (fun _ => true) true m 38 [v0] = some y0 := by
        have h1 : DataW.trod enc Try.prog W 0 (fun _ => true) true m 38 (List.take (Try.prog.cellsOf 38) (List.drop 0 [v0, v1, v2, v3, v4])) = some y0 := hf 0 _ rfl
        rw [k_u64] at h1
        exact h1
      have g1 : DataW.trod enc Try.prog W 0 (fun _ => true) true m 38 [v1] = some y1 := by
        have h1 : DataW.trod enc Try.prog W 0 (fun _ => true) true m 38 (List.take (Try.prog.cellsOf 38) (List.drop 1 [v0, v1, v2, v3, v4])) = some y1 := hf 1 _ rfl
        rw [k_u64] at h1
        exact h1
      have g2 : DataW.trod enc Try.prog W 0 (fun _ => true) true m 38 [v2] = some y2 := by
        have h1 : DataW.trod enc Try.prog W 0 (fun _ => true) true m 38 (List.take (Try.prog.cellsOf 38) (List.drop 2 [v0, v1, v2, v3, v4])) = some y2 := hf 2 _ rfl
        rw [k_u64] at h1
        exact h1
      have g3 : DataW.trod enc Try.prog W 0 (fun _ => true) true m 38 [v3] = some y3 := by
        have h1 : DataW.trod enc Try.prog W 0 (fun _ => true) true m 38 (List.take (Try.prog.cellsOf 38) (List.drop 3 [v0, v1, v2, v3, v4])) = some y3 := hf 3 _ rfl
        rw [k_u64] at h1
        exact h1
      have g4 : DataW.trod enc Try.prog W 0 (fun _ => true) true m 4 [v4] = some y4 := by
        have h1 : DataW.trod enc Try.prog W 0 (fun _ => true) true m 4 (List.take (Try.prog.cellsOf 4) (List.drop 4 [v0, v1, v2, v3, v4])) = some y4 := hf 4 _ rfl
        rw [k_bool] at h1
        exact h1
      obtain ⟨n0, e0, _, w0⟩ := DataW.trod_int Try.underlying38 g0
      obtain ⟨n1, e1, _, w1⟩ := DataW.trod_int Try.underlying38 g1
      obtain ⟨n2, e2, _, w2⟩ := DataW.trod_int Try.underlying38 g2
      obtain ⟨n3, e3, _, w3⟩ := DataW.trod_int Try.underlying38 g3
      obtain ⟨n4, e4, _⟩ := DataW.trod_bool Try.underlying4 g4
      simp only [List.cons.injEq, and_true] at e0 e1 e2 e3 e4
      subst e0 e1 e2 e3 e4
      have b0 := bounds_u64 w0
      have b1 := bounds_u64 w1
      have b2 := bounds_u64 w2
      have b3 := bounds_u64 w3
      obtain ⟨m0, rfl⟩ := nat_of b0.1
      obtain ⟨m1, rfl⟩ := nat_of b1.1
      obtain ⟨m2, rfl⟩ := nat_of b2.1
      obtain ⟨m3, rfl⟩ := nat_of b3.1
      refine ⟨⟨m0, m1, m2, m3, n4⟩, rfl, ⟨?_, ?_, ?_, ?_⟩⟩
      · show m0 < 18446744073709551616; omega
      · show m1 < 18446744073709551616; omega
      · show m2 < 18446744073709551616; omega
      · show m3 < 18446744073709551616; omega
set_option maxRecDepth 100000 in
/-- a master, as a value -/
theorem ms_of {B : Nat} {v : Value} {d : DataW H} {p : List MemPlace} (hv : Value.okWide Try.prog W .any B 40 v) (h : DataW.Trod enc Try.prog W 0 (fun _ => true) true 40 v d p) : ∃ m : Ms, v = msV m ∧ m.wf := by
  obtain ⟨cs, rfl, hcs⟩ := okWide_struct Try.underlying40 hv
  obtain ⟨fuel, hf0⟩ := h
  have hc5 : cs.size = 5 := hcs.trans (by kernel_rfl)
  obtain ⟨l, rfl⟩ : ∃ l : List Value, cs = l.toArray := ⟨cs.toList, by simp⟩
  have hl5 : l.length = 5 := by simpa using hc5
  obtain ⟨m, e, hi⟩ := ms_in (y := (d, p)) hl5 hf0
  refine ⟨m, ?_, hi⟩
  rw [e]
  rfl
set_option maxRecDepth 100000 in
/-- a list of masters -/
theorem mss_of {B : Nat} {v : Value} {d : DataW H} {p : List MemPlace} (hv : Value.okWide Try.prog W .any B 55 v) (h : DataW.Trod enc Try.prog W 0 (fun _ => true) true 55 v d p)
    (hz : ∀ n ∈ d.weights Try.prog 55, n ≤ 140737488351232) : ∃ l : List Ms, Is msS W v l ∧ l.length ≤ 140737488351232 ∧ ∀ x ∈ l, x.wf := by
  obtain ⟨a, len, cap, rfl⟩ := okWide_slice Try.underlying55 hv
  obtain ⟨fuel, hf0⟩ := h
  exact is_arg msS hf0 (by have : Try.prog.bytesOf 40 = 40 := by kernel_rfl
                           exact (show 1 ≤ Try.prog.bytesOf 40 by omega)) (by kernel_rfl) (fun m => m.wf) (fun cs m y hl ht _ => ms_in hl ht) hz
end
end Go.Proofs.Ytfcibccipkokoaa.Mas
