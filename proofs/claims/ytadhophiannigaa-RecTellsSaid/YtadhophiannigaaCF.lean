/- Records that come in. -/
import Derived.Test.YtadhophiannigaaCR
import Derived.Deep.Slices
import Derived.Deep.Fields
import Derived.Deep.MidRow
import Derived.ChangeSame
import Derived.SizedLaws
import Derived.OpenShut
namespace Go.Proofs.Ytadhophiannigaa.Rec
open Go.RowKit Go.ChangeShapes Go.WideShapes Go.Deep

instance : Inhabited Di := ⟨⟨0, 0⟩⟩
instance : Inhabited Ac := ⟨⟨0, 0, 0, 0⟩⟩
section
variable {H : Type} {enc : TypeId × Value → H} {W : World}

theorem weights_all {P : Program} {e : TypeId} : ∀ {l : List (DataW H)} {d : DataW H}, d ∈ l → ∀ n ∈ d.weights P e, n ∈ DataW.weightsAll P e l
  | [], _, h, _, _ => by cases h
  | x :: r, d, h, n, hn => by
    simp only [DataW.weightsAll, List.mem_append]
    rcases List.mem_cons.1 h with rfl | h
    · exact .inl hn
    · exact .inr (weights_all h n hn)
theorem nat_of {n : Int} (h : 0 ≤ n) : ∃ m : Nat, n = (m : Int) := ⟨n.toNat, by omega⟩

set_option maxRecDepth 100000 in
set_option maxHeartbeats 1000000 in
theorem di_in {fuel x o : Nat} {cs : List Value} {y : DataW H × List MemPlace} (hl : cs.length = 2) (hc : ∀ j v, cs[j]? = some v → W.cell? ⟨x, o + j, none⟩ = some v) (h : DataW.trod enc Try.prog W 0 (fun _ => true) true fuel 55 cs = some y) : ∃ r : Di, DiAt W x o r ∧ r.wf := by
  obtain ⟨ys, m, _, hy, _, hyl, hf⟩ := DataW.trod_struct Try.underlying55 h
  have k22 : Try.prog.cellsOf 22 = 1 := by kernel_rfl
  have k23 : Try.prog.cellsOf 23 = 1 := by kernel_rfl
  match cs, hl with
  | [v0, v1], _ =>
    match ys, hyl with
    | [y0, y1], _ =>
      have g0 : DataW.trod enc Try.prog W 0 (fun _ => true) true m 23 [v0] = some y0 := by
        have h1 : DataW.trod enc Try.prog W 0 (fun _ => true) true m 23 (List.take (Try.prog.cellsOf 23) (List.drop 0 [v0, v1])) = some y0 := hf 0 _ rfl
        rw [k23] at h1
        exact h1
      obtain ⟨n0, e0, _, w0⟩ := DataW.trod_int Try.underlying23 g0
      have g1 : DataW.trod enc Try.prog W 0 (fun _ => true) true m 22 [v1] = some y1 := by
        have h1 : DataW.trod enc Try.prog W 0 (fun _ => true) true m 22 (List.take (Try.prog.cellsOf 22) (List.drop 1 [v0, v1])) = some y1 := hf 1 _ rfl
        rw [k22] at h1
        exact h1
      obtain ⟨n1, e1, _, w1⟩ := DataW.trod_int Try.underlying22 g1
      simp only [List.cons.injEq, and_true] at e0 e1
      subst e0 e1
      have b0 := bounds_u32 w0
      obtain ⟨m0, rfl⟩ := nat_of b0.1
      have b1 := bounds_u64 w1
      obtain ⟨m1, rfl⟩ := nat_of b1.1
      refine ⟨⟨m0, m1⟩, ⟨hc 0 _ rfl, hc 1 _ rfl⟩, ⟨?_, ?_⟩⟩
      · show m0 < 4294967296; omega
      · show m1 < 18446744073709551616; omega

set_option maxRecDepth 100000 in
set_option maxHeartbeats 1000000 in
theorem ac_in {fuel x o : Nat} {cs : List Value} {y : DataW H × List MemPlace} (hl : cs.length = 4) (hc : ∀ j v, cs[j]? = some v → W.cell? ⟨x, o + j, none⟩ = some v) (h : DataW.trod enc Try.prog W 0 (fun _ => true) true fuel 57 cs = some y) : ∃ r : Ac, AcAt W x o r ∧ r.wf := by
  obtain ⟨ys, m, _, hy, _, hyl, hf⟩ := DataW.trod_struct Try.underlying57 h
  have k22 : Try.prog.cellsOf 22 = 1 := by kernel_rfl
  have k23 : Try.prog.cellsOf 23 = 1 := by kernel_rfl
  match cs, hl with
  | [v0, v1, v2, v3], _ =>
    match ys, hyl with
    | [y0, y1, y2, y3], _ =>
      have g0 : DataW.trod enc Try.prog W 0 (fun _ => true) true m 22 [v0] = some y0 := by
        have h1 : DataW.trod enc Try.prog W 0 (fun _ => true) true m 22 (List.take (Try.prog.cellsOf 22) (List.drop 0 [v0, v1, v2, v3])) = some y0 := hf 0 _ rfl
        rw [k22] at h1
        exact h1
      obtain ⟨n0, e0, _, w0⟩ := DataW.trod_int Try.underlying22 g0
      have g1 : DataW.trod enc Try.prog W 0 (fun _ => true) true m 22 [v1] = some y1 := by
        have h1 : DataW.trod enc Try.prog W 0 (fun _ => true) true m 22 (List.take (Try.prog.cellsOf 22) (List.drop 1 [v0, v1, v2, v3])) = some y1 := hf 1 _ rfl
        rw [k22] at h1
        exact h1
      obtain ⟨n1, e1, _, w1⟩ := DataW.trod_int Try.underlying22 g1
      have g2 : DataW.trod enc Try.prog W 0 (fun _ => true) true m 22 [v2] = some y2 := by
        have h1 : DataW.trod enc Try.prog W 0 (fun _ => true) true m 22 (List.take (Try.prog.cellsOf 22) (List.drop 2 [v0, v1, v2, v3])) = some y2 := hf 2 _ rfl
        rw [k22] at h1
        exact h1
      obtain ⟨n2, e2, _, w2⟩ := DataW.trod_int Try.underlying22 g2
      have g3 : DataW.trod enc Try.prog W 0 (fun _ => true) true m 22 [v3] = some y3 := by
        have h1 : DataW.trod enc Try.prog W 0 (fun _ => true) true m 22 (List.take (Try.prog.cellsOf 22) (List.drop 3 [v0, v1, v2, v3])) = some y3 := hf 3 _ rfl
        rw [k22] at h1
        exact h1
      obtain ⟨n3, e3, _, w3⟩ := DataW.trod_int Try.underlying22 g3
      simp only [List.cons.injEq, and_true] at e0 e1 e2 e3
      subst e0 e1 e2 e3
      have b0 := bounds_u64 w0
      obtain ⟨m0, rfl⟩ := nat_of b0.1
      have b1 := bounds_u64 w1
      obtain ⟨m1, rfl⟩ := nat_of b1.1
      have b2 := bounds_u64 w2
      obtain ⟨m2, rfl⟩ := nat_of b2.1
      have b3 := bounds_u64 w3
      obtain ⟨m3, rfl⟩ := nat_of b3.1
      refine ⟨⟨m0, m1, m2, m3⟩, ⟨hc 0 _ rfl, hc 1 _ rfl, hc 2 _ rfl, hc 3 _ rfl⟩, ⟨?_, ?_, ?_, ?_⟩⟩
      · show m0 < 18446744073709551616; omega
      · show m1 < 18446744073709551616; omega
      · show m2 < 18446744073709551616; omega
      · show m3 < 18446744073709551616; omega

set_option maxRecDepth 100000 in
set_option maxHeartbeats 1000000 in
/-- a slice of them -/
theorem di_arg {fuel : Nat} {v : Value} {d : DataW H × List MemPlace} (hv : ∃ a n c, v = .slice a n c) (hf : DataW.trod enc Try.prog W 0 (fun _ => true) true fuel 27 [v] = some d)
    (hz : ∀ n ∈ d.1.weights Try.prog 27, n ≤ 140737488351232) : ∃ l : List Di, IsDi W v l ∧ l.length ≤ 140737488351232 ∧ ∀ (i : Nat) (c : Di), l[i]? = some c → c.wf := by
  obtain ⟨a, len, cap, rfl⟩ := hv
  have h7 : Try.prog.cellsOf 55 = 2 := by kernel_rfl
  have hb : 1 ≤ Try.prog.bytesOf 55 := by
    have : Try.prog.bytesOf 55 = 16 := by kernel_rfl
    omega
  rcases open_slice Try.underlying27 hf with ⟨h1, _⟩ | ⟨a', len', cap', m, n, D, Pl, h1, _, hl, _, hm, hx, hi⟩
  · simp at h1
    obtain ⟨rfl, rfl, rfl⟩ := h1
    exact ⟨[], IsDi.nil W, by simp, fun i c h => by simp at h⟩
  · simp at h1
    obtain ⟨rfl, rfl, rfl⟩ := h1
    simp only [if_true] at hm
    obtain rfl := hm
    have hd : d.1 = .slice ((List.range len).map D) ((List.range (m - len)).map fun j => D (len + j)) := congrArg Prod.fst hx
    have hlen : len ≤ 140737488351232 := by
      have := hz ((((List.range len).map D).length + ((List.range (m - len)).map fun j => D (len + j)).length) * Try.prog.bytesOf 55) (by
        rw [hd]
        simp only [DataW.weights, Try.underlying27]
        exact List.mem_cons_self ..)
      simp at this
      have h2 : len * 1 ≤ (len + (m - len)) * Try.prog.bytesOf 55 := Nat.mul_le_mul (by omega) hb
      omega
    have hsp : ∀ i, i < len → a'.spot = none := fun i hlt => by
      obtain ⟨cs, hcs, _⟩ := hi 0 (by omega)
      rw [h7] at hcs
      obtain ⟨_, hl7, hat⟩ := World.cells?_some hcs
      have h0 := hat 0 (by omega)
      obtain ⟨c0, hc0⟩ : ∃ c0, cs[0]? = some c0 := ⟨cs[0]'(by omega), List.getElem?_eq_getElem (by omega)⟩
      rw [hc0] at h0
      obtain ⟨x, o, sp⟩ := a'
      cases sp with
      | none => rfl
      | some s => simp [Addr.add, World.cell?] at h0; split at h0 <;> simp at h0
    have each : ∀ i, i < len → ∃ c : Di, DiAt W a'.block (a'.off + i * 2) c ∧ c.wf := fun i hlt => by
      obtain ⟨cs, hcs, ht⟩ := hi i (by omega)
      rw [h7] at hcs
      obtain ⟨_, hl7, hat⟩ := World.cells?_some hcs
      refine di_in (y := (D i, Pl i)) hl7 (fun j u hu => ?_) ht
      have hj : j < 2 := by rw [← hl7]; exact (List.getElem?_eq_some_iff.1 hu).1
      have := hat j hj
      rw [hu] at this
      have hs := hsp i hlt
      obtain ⟨x, o, sp⟩ := a'
      simp at hs
      subst hs
      rw [Addr.add_mid, Addr.add_mid] at this
      exact this
    obtain ⟨f, hfc⟩ := choose_lt each
    refine ⟨(List.range len).map f, ⟨some a', m, by simp, (fun h => by cases h), fun i c hc => ?_⟩, by simpa using hlen, fun i c hc => ?_⟩
    · simp only [List.getElem?_map, Option.map_eq_some_iff] at hc
      obtain ⟨i', h3, rfl⟩ := hc
      obtain ⟨hlt, e⟩ := List.getElem?_eq_some_iff.1 h3
      simp at hlt e
      subst e
      have hs := hsp i hlt
      have hc := (hfc i hlt).1
      obtain ⟨x, o, sp⟩ := a'
      simp at hs
      subst hs
      exact ⟨x, o, rfl, hc⟩
    · simp only [List.getElem?_map, Option.map_eq_some_iff] at hc
      obtain ⟨i', h3, rfl⟩ := hc
      obtain ⟨hlt, e⟩ := List.getElem?_eq_some_iff.1 h3
      simp at hlt e
      subst e
      exact (hfc i hlt).2

set_option maxRecDepth 100000 in
set_option maxHeartbeats 1000000 in
/-- a slice of them -/
theorem ac_arg {fuel : Nat} {v : Value} {d : DataW H × List MemPlace} (hv : ∃ a n c, v = .slice a n c) (hf : DataW.trod enc Try.prog W 0 (fun _ => true) true fuel 28 [v] = some d)
    (hz : ∀ n ∈ d.1.weights Try.prog 28, n ≤ 140737488351232) : ∃ l : List Ac, IsAc W v l ∧ l.length ≤ 140737488351232 ∧ ∀ (i : Nat) (c : Ac), l[i]? = some c → c.wf := by
  obtain ⟨a, len, cap, rfl⟩ := hv
  have h7 : Try.prog.cellsOf 57 = 4 := by kernel_rfl
  have hb : 1 ≤ Try.prog.bytesOf 57 := by
    have : Try.prog.bytesOf 57 = 32 := by kernel_rfl
    omega
  rcases open_slice Try.underlying28 hf with ⟨h1, _⟩ | ⟨a', len', cap', m, n, D, Pl, h1, _, hl, _, hm, hx, hi⟩
  · simp at h1
    obtain ⟨rfl, rfl, rfl⟩ := h1
    exact ⟨[], IsAc.nil W, by simp, fun i c h => by simp at h⟩
  · simp at h1
    obtain ⟨rfl, rfl, rfl⟩ := h1
    simp only [if_true] at hm
    obtain rfl := hm
    have hd : d.1 = .slice ((List.range len).map D) ((List.range (m - len)).map fun j => D (len + j)) := congrArg Prod.fst hx
    have hlen : len ≤ 140737488351232 := by
      have := hz ((((List.range len).map D).length + ((List.range (m - len)).map fun j => D (len + j)).length) * Try.prog.bytesOf 57) (by
        rw [hd]
        simp only [DataW.weights, Try.underlying28]
        exact List.mem_cons_self ..)
      simp at this
      have h2 : len * 1 ≤ (len + (m - len)) * Try.prog.bytesOf 57 := Nat.mul_le_mul (by omega) hb
      omega
    have hsp : ∀ i, i < len → a'.spot = none := fun i hlt => by
      obtain ⟨cs, hcs, _⟩ := hi 0 (by omega)
      rw [h7] at hcs
      obtain ⟨_, hl7, hat⟩ := World.cells?_some hcs
      have h0 := hat 0 (by omega)
      obtain ⟨c0, hc0⟩ : ∃ c0, cs[0]? = some c0 := ⟨cs[0]'(by omega), List.getElem?_eq_getElem (by omega)⟩
      rw [hc0] at h0
      obtain ⟨x, o, sp⟩ := a'
      cases sp with
      | none => rfl
      | some s => simp [Addr.add, World.cell?] at h0; split at h0 <;> simp at h0
    have each : ∀ i, i < len → ∃ c : Ac, AcAt W a'.block (a'.off + i * 4) c ∧ c.wf := fun i hlt => by
      obtain ⟨cs, hcs, ht⟩ := hi i (by omega)
      rw [h7] at hcs
      obtain ⟨_, hl7, hat⟩ := World.cells?_some hcs
      refine ac_in (y := (D i, Pl i)) hl7 (fun j u hu => ?_) ht
      have hj : j < 4 := by rw [← hl7]; exact (List.getElem?_eq_some_iff.1 hu).1
      have := hat j hj
      rw [hu] at this
      have hs := hsp i hlt
      obtain ⟨x, o, sp⟩ := a'
      simp at hs
      subst hs
      rw [Addr.add_mid, Addr.add_mid] at this
      exact this
    obtain ⟨f, hfc⟩ := choose_lt each
    refine ⟨(List.range len).map f, ⟨some a', m, by simp, (fun h => by cases h), fun i c hc => ?_⟩, by simpa using hlen, fun i c hc => ?_⟩
    · simp only [List.getElem?_map, Option.map_eq_some_iff] at hc
      obtain ⟨i', h3, rfl⟩ := hc
      obtain ⟨hlt, e⟩ := List.getElem?_eq_some_iff.1 h3
      simp at hlt e
      subst e
      have hs := hsp i hlt
      have hc := (hfc i hlt).1
      obtain ⟨x, o, sp⟩ := a'
      simp at hs
      subst hs
      exact ⟨x, o, rfl, hc⟩
    · simp only [List.getElem?_map, Option.map_eq_some_iff] at hc
      obtain ⟨i', h3, rfl⟩ := hc
      obtain ⟨hlt, e⟩ := List.getElem?_eq_some_iff.1 h3
      simp at hlt e
      subst e
      exact (hfc i hlt).2

theorem slice_of {v : Value} {fuel : Nat} {y : DataW H × List MemPlace} {T e : TypeId} (hu : Try.prog.underlying T = some (.slice e)) (h : DataW.trod enc Try.prog W 0 (fun _ => true) true fuel T [v] = some y) : ∃ a n c, v = .slice a n c := by
  rcases open_slice hu h with ⟨h1, _⟩ | ⟨a', len', cap', m, n, D, Pl, h1, _⟩
  · simp at h1
    exact ⟨_, _, _, h1⟩
  · simp at h1
    exact ⟨_, _, _, h1⟩

set_option maxRecDepth 100000 in
set_option maxHeartbeats 2000000 in
/-- a record, out of its cells -/
theorem rec_of {B : Nat} {v : Value} {d : DataW H} {p : List MemPlace} (hv : Value.okWide Try.prog W .any B 32 v) (h : DataW.Trod enc Try.prog W 0 (fun _ => true) true 32 v d p)
    (hz : ∀ n ∈ d.weights Try.prog 32, n ≤ 140737488351232) : ∃ (r : Rc) (du tu : Value), v = recV r du tu ∧ InR W r du tu := by
  obtain ⟨cs, rfl, hcs⟩ := okWide_struct Try.underlying32 hv
  obtain ⟨fuel, hf0⟩ := h
  obtain ⟨ys, m, _, hy, _, hyl, hf⟩ := DataW.trod_struct Try.underlying32 hf0
  have hc12 : cs.size = 12 := hcs.trans (by kernel_rfl)
  obtain ⟨l, rfl⟩ : ∃ l : List Value, cs = l.toArray := ⟨cs.toList, by simp⟩
  have hl12 : l.length = 12 := by simpa using hc12
  have k5 : Try.prog.cellsOf 5 = 1 := by kernel_rfl
  have k9 : Try.prog.cellsOf 9 = 1 := by kernel_rfl
  have k22 : Try.prog.cellsOf 22 = 1 := by kernel_rfl
  have k23 : Try.prog.cellsOf 23 = 1 := by kernel_rfl
  have k24 : Try.prog.cellsOf 24 = 1 := by kernel_rfl
  have k26 : Try.prog.cellsOf 26 = 2 := by kernel_rfl
  have k27 : Try.prog.cellsOf 27 = 1 := by kernel_rfl
  have k28 : Try.prog.cellsOf 28 = 1 := by kernel_rfl
  have k30 : Try.prog.cellsOf 30 = 4 := by kernel_rfl
  match l, hl12 with
  | [v0, v1, v2, v3, v4, v5, v6, v7, v8, v9, v10, v11], _ =>
    match ys, hyl with
    | [y0, y1, y2, y3, y4, y5, y6, y7], _ =>
      have g0 : DataW.trod enc Try.prog W 0 (fun _ => true) true m 5 [v0] = some y0 := by
        have h1 : DataW.trod enc Try.prog W 0 (fun _ => true) true m 5 (List.take (Try.prog.cellsOf 5) (List.drop 0 [v0, v1, v2, v3, v4, v5, v6, v7, v8, v9, v10, v11])) = some y0 := hf 0 _ rfl
        rw [k5] at h1
        exact h1
      have g1 : DataW.trod enc Try.prog W 0 (fun _ => true) true m 22 [v1] = some y1 := by
        have h1 : DataW.trod enc Try.prog W 0 (fun _ => true) true m 22 (List.take (Try.prog.cellsOf 22) (List.drop 1 [v0, v1, v2, v3, v4, v5, v6, v7, v8, v9, v10, v11])) = some y1 := hf 1 _ rfl
        rw [k22] at h1
        exact h1
      have g2 : DataW.trod enc Try.prog W 0 (fun _ => true) true m 22 [v2] = some y2 := by
        have h1 : DataW.trod enc Try.prog W 0 (fun _ => true) true m 22 (List.take (Try.prog.cellsOf 22) (List.drop 2 [v0, v1, v2, v3, v4, v5, v6, v7, v8, v9, v10, v11])) = some y2 := hf 2 _ rfl
        rw [k22] at h1
        exact h1
      have g3 : DataW.trod enc Try.prog W 0 (fun _ => true) true m 26 [v3, v4] = some y3 := by
        have h1 : DataW.trod enc Try.prog W 0 (fun _ => true) true m 26 (List.take (Try.prog.cellsOf 26) (List.drop 3 [v0, v1, v2, v3, v4, v5, v6, v7, v8, v9, v10, v11])) = some y3 := hf 3 _ rfl
        rw [k26] at h1
        exact h1
      have g4 : DataW.trod enc Try.prog W 0 (fun _ => true) true m 22 [v5] = some y4 := by
        have h1 : DataW.trod enc Try.prog W 0 (fun _ => true) true m 22 (List.take (Try.prog.cellsOf 22) (List.drop 5 [v0, v1, v2, v3, v4, v5, v6, v7, v8, v9, v10, v11])) = some y4 := hf 4 _ rfl
        rw [k22] at h1
        exact h1
      have g5 : DataW.trod enc Try.prog W 0 (fun _ => true) true m 22 [v6] = some y5 := by
        have h1 : DataW.trod enc Try.prog W 0 (fun _ => true) true m 22 (List.take (Try.prog.cellsOf 22) (List.drop 6 [v0, v1, v2, v3, v4, v5, v6, v7, v8, v9, v10, v11])) = some y5 := hf 5 _ rfl
        rw [k22] at h1
        exact h1
      have g6 : DataW.trod enc Try.prog W 0 (fun _ => true) true m 9 [v7] = some y6 := by
        have h1 : DataW.trod enc Try.prog W 0 (fun _ => true) true m 9 (List.take (Try.prog.cellsOf 9) (List.drop 7 [v0, v1, v2, v3, v4, v5, v6, v7, v8, v9, v10, v11])) = some y6 := hf 6 _ rfl
        rw [k9] at h1
        exact h1
      have g7 : DataW.trod enc Try.prog W 0 (fun _ => true) true m 30 [v8, v9, v10, v11] = some y7 := by
        have h1 : DataW.trod enc Try.prog W 0 (fun _ => true) true m 30 (List.take (Try.prog.cellsOf 30) (List.drop 8 [v0, v1, v2, v3, v4, v5, v6, v7, v8, v9, v10, v11])) = some y7 := hf 7 _ rfl
        rw [k30] at h1
        exact h1
      obtain ⟨zs, m2, _, _, _, hzl, hg⟩ := DataW.trod_struct Try.underlying26 g3
      obtain ⟨us, m3, _, hu, _, hul, hh⟩ := DataW.trod_struct Try.underlying30 g7
      match zs, hzl, us, hul with
      | [z0, z1], _, [u0, u1, u2, u3], _ =>
        have p0 : DataW.trod enc Try.prog W 0 (fun _ => true) true m2 23 [v3] = some z0 := by
          have h1 : DataW.trod enc Try.prog W 0 (fun _ => true) true m2 23 (List.take (Try.prog.cellsOf 23) (List.drop 0 [v3, v4])) = some z0 := hg 0 _ rfl
          rw [k23] at h1
          exact h1
        have p1 : DataW.trod enc Try.prog W 0 (fun _ => true) true m2 24 [v4] = some z1 := by
          have h1 : DataW.trod enc Try.prog W 0 (fun _ => true) true m2 24 (List.take (Try.prog.cellsOf 24) (List.drop 1 [v3, v4])) = some z1 := hg 1 _ rfl
          rw [k24] at h1
          exact h1
        have q0 : DataW.trod enc Try.prog W 0 (fun _ => true) true m3 27 [v8] = some u0 := by
          have h1 : DataW.trod enc Try.prog W 0 (fun _ => true) true m3 27 (List.take (Try.prog.cellsOf 27) (List.drop 0 [v8, v9, v10, v11])) = some u0 := hh 0 _ rfl
          rw [k27] at h1
          exact h1
        have q1 : DataW.trod enc Try.prog W 0 (fun _ => true) true m3 28 [v9] = some u1 := by
          have h1 : DataW.trod enc Try.prog W 0 (fun _ => true) true m3 28 (List.take (Try.prog.cellsOf 28) (List.drop 1 [v8, v9, v10, v11])) = some u1 := hh 1 _ rfl
          rw [k28] at h1
          exact h1
        have q2 : DataW.trod enc Try.prog W 0 (fun _ => true) true m3 22 [v10] = some u2 := by
          have h1 : DataW.trod enc Try.prog W 0 (fun _ => true) true m3 22 (List.take (Try.prog.cellsOf 22) (List.drop 2 [v8, v9, v10, v11])) = some u2 := hh 2 _ rfl
          rw [k22] at h1
          exact h1
        have q3 : DataW.trod enc Try.prog W 0 (fun _ => true) true m3 22 [v11] = some u3 := by
          have h1 : DataW.trod enc Try.prog W 0 (fun _ => true) true m3 22 (List.take (Try.prog.cellsOf 22) (List.drop 3 [v8, v9, v10, v11])) = some u3 := hh 3 _ rfl
          rw [k22] at h1
          exact h1
        obtain ⟨n0, e0, _, w0⟩ := DataW.trod_int Try.underlying5 g0
        obtain ⟨n1, e1, _, w1⟩ := DataW.trod_int Try.underlying22 g1
        obtain ⟨n2, e2, _, w2⟩ := DataW.trod_int Try.underlying22 g2
        obtain ⟨n3, e3, _, w3⟩ := DataW.trod_int Try.underlying23 p0
        obtain ⟨n4, e4, _, w4⟩ := DataW.trod_int Try.underlying24 p1
        obtain ⟨n5, e5, _, w5⟩ := DataW.trod_int Try.underlying22 g4
        obtain ⟨n6, e6, _, w6⟩ := DataW.trod_int Try.underlying22 g5
        obtain ⟨s7, e7, x7, _⟩ := DataW.trod_string Try.underlying9 g6
        obtain ⟨n10, e10, _, w10⟩ := DataW.trod_int Try.underlying22 q2
        obtain ⟨n11, e11, _, w11⟩ := DataW.trod_int Try.underlying22 q3
        simp only [List.cons.injEq, and_true] at e0 e1 e2 e3 e4 e5 e6 e7 e10 e11
        subst e0 e1 e2 e3 e4 e5 e6 e7 e10 e11
        have hd : d = .agg [y0.1, y1.1, y2.1, y3.1, y4.1, y5.1, y6.1, y7.1] := by
          simp only [Prod.ext_iff] at hy
          rw [hy.1]; rfl
        have hw : ∀ n ∈ DataW.weightsEach Try.prog [5, 22, 22, 26, 22, 22, 9, 30] [y0.1, y1.1, y2.1, y3.1, y4.1, y5.1, y6.1, y7.1], n ≤ 140737488351232 := by
          intro n hn
          refine hz n ?_
          rw [hd]
          simp only [DataW.weights, Try.underlying32]
          exact hn
        have hd7 : y7.1 = .agg [u0.1, u1.1, u2.1, u3.1] := by
          simp only [Prod.ext_iff] at hu
          rw [hu.1]; rfl
        have hw7 : ∀ n ∈ DataW.weightsEach Try.prog [27, 28, 22, 22] [u0.1, u1.1, u2.1, u3.1], n ≤ 140737488351232 := by
          intro n hn
          refine hw n (DataW.weights_mem_each (j := 7) rfl rfl _ ?_)
          rw [hd7]
          simp only [DataW.weights, Try.underlying30]
          exact hn
        have q7 : s7.size ≤ 140737488351232 := hw _ (DataW.weights_mem_each (j := 6) rfl rfl _ (by rw [x7]; simp [DataW.weights]))
        obtain ⟨D, di, dl, dw⟩ := di_arg (slice_of Try.underlying27 q0) q0 fun n hn => hw7 n (DataW.weights_mem_each (j := 0) rfl rfl _ hn)
        obtain ⟨A, ai, al, aw⟩ := ac_arg (slice_of Try.underlying28 q1) q1 fun n hn => hw7 n (DataW.weights_mem_each (j := 1) rfl rfl _ hn)
        have b0 := bounds_u8 w0
        have b1 := bounds_u64 w1
        have b2 := bounds_u64 w2
        have b3 := bounds_u32 w3
        have b4 := bounds_u16 w4
        have b5 := bounds_u64 w5
        have b6 := bounds_u64 w6
        have b10 := bounds_u64 w10
        have b11 := bounds_u64 w11
        obtain ⟨m0, rfl⟩ := nat_of b0.1
        obtain ⟨m1, rfl⟩ := nat_of b1.1
        obtain ⟨m2', rfl⟩ := nat_of b2.1
        obtain ⟨m3', rfl⟩ := nat_of b3.1
        obtain ⟨m4, rfl⟩ := nat_of b4.1
        obtain ⟨m5, rfl⟩ := nat_of b5.1
        obtain ⟨m6, rfl⟩ := nat_of b6.1
        obtain ⟨m10, rfl⟩ := nat_of b10.1
        obtain ⟨m11, rfl⟩ := nat_of b11.1
        refine ⟨⟨m0, m1, m2', m3', m4, m5, m6, s7, D, A, m10, m11⟩, v8, v9, rfl, ⟨{ kind := ?_, tx := ?_, prev := ?_, page := ?_, slot := ?_, next := ?_, number := ?_, body := q7, ttx := ?_, tnum := ?_, dirty := dl, txns := al, each := dw, eacht := aw }, di, ai⟩⟩
        · show m0 < 256; omega
        · show m1 < 18446744073709551616; omega
        · show m2' < 18446744073709551616; omega
        · show m3' < 4294967296; omega
        · show m4 < 65536; omega
        · show m5 < 18446744073709551616; omega
        · show m6 < 18446744073709551616; omega
        · show m10 < 18446744073709551616; omega
        · show m11 < 18446744073709551616; omega
end
end Go.Proofs.Ytadhophiannigaa.Rec
