/- Slices of elements of any shape, that come in (any stage). -/
import Derived.Test.YtfcibccipkokoaaGX
import Derived.Deep.Slices
import Derived.Deep.Fields
import Derived.ChangeSame
import Derived.SizedLaws
import Derived.OpenShut
namespace Go.Proofs.Ytfcibccipkokoaa.Seq
open Go.RowKit Go.ChangeShapes Go.WideShapes Go.Deep

section
variable {H : Type} {enc : TypeId × Value → H} {W : World}

theorem weights_all {P : Program} {e : TypeId} : ∀ {l : List (DataW H)} {d : DataW H}, d ∈ l → ∀ n ∈ d.weights P e, n ∈ DataW.weightsAll P e l
  | [], _, h, _, _ => by cases h
  | x :: r, d, h, n, hn => by
    simp only [DataW.weightsAll, List.mem_append]
    rcases List.mem_cons.1 h with rfl | h
    · exact .inl hn
    · exact .inr (weights_all h n hn)
theorem nat_of {n : Int} (h : 0 ≤ n) : ∃ m : Nat, n = (m : Int) := ⟨n.toNat, by omega⟩
theorem slice_of {v : Value} {fuel : Nat} {y : DataW H × List MemPlace} {T e : TypeId} (hu : Try.prog.underlying T = some (.slice e)) (h : DataW.trod enc Try.prog W 0 (fun _ => true) true fuel T [v] = some y) : ∃ a n c, v = .slice a n c := by
  rcases open_slice hu h with ⟨h1, _⟩ | ⟨a', len', cap', m, n, D, Pl, h1, _⟩
  · simp at h1
    exact ⟨_, _, _, h1⟩
  · simp at h1
    exact ⟨_, _, _, h1⟩

/-- a slice of elements that are read off their cells -/
theorem is_arg {α : Type} [Inhabited α] (S : Shp Try.prog α) {fuel : Nat} {v : Value} {d : DataW H × List MemPlace} (hf : DataW.trod enc Try.prog W 0 (fun _ => true) true fuel S.t [v] = some d)
    (hb : 1 ≤ Try.prog.bytesOf S.e) (hk : Try.prog.cellsOf S.e = S.k) (Pr : α → Prop)
    (elem : ∀ (cs : List Value) (m : Nat) (y : DataW H × List MemPlace), cs.length = S.k → DataW.trod enc Try.prog W 0 (fun _ => true) true m S.e cs = some y → (∀ n ∈ y.1.weights Try.prog S.e, n ≤ 140737488351232) → ∃ x, cs = S.cells x ∧ Pr x)
    (hz : ∀ n ∈ d.1.weights Try.prog S.t, n ≤ 140737488351232) : ∃ l : List α, Is S W v l ∧ l.length ≤ 140737488351232 ∧ ∀ x ∈ l, Pr x := by
  obtain ⟨a, len, cap, rfl⟩ := slice_of S.under hf
  have hkp := S.kpos
  rcases open_slice S.under hf with ⟨h1, _⟩ | ⟨a', len', cap', m, n, D, Pl, h1, _, hl, _, hm, hx, hi⟩
  · simp at h1
    obtain ⟨rfl, rfl, rfl⟩ := h1
    exact ⟨[], Is.nil W, by simp, fun x h => by cases h⟩
  · simp at h1
    obtain ⟨rfl, rfl, rfl⟩ := h1
    simp only [if_true] at hm
    obtain rfl := hm
    have hd : d.1 = .slice ((List.range len).map D) ((List.range (m - len)).map fun j => D (len + j)) := congrArg Prod.fst hx
    have hlen : len ≤ 140737488351232 := by
      have := hz ((((List.range len).map D).length + ((List.range (m - len)).map fun j => D (len + j)).length) * Try.prog.bytesOf S.e) (by
        rw [hd]
        simp only [DataW.weights, S.under]
        exact List.mem_cons_self ..)
      simp at this
      have h2 : len * 1 ≤ (len + (m - len)) * Try.prog.bytesOf S.e := Nat.mul_le_mul (by omega) hb
      omega
    have hsp : 0 < len → a'.spot = none := fun hlt => by
      obtain ⟨cs, hcs, _⟩ := hi 0 (by omega)
      rw [hk] at hcs
      obtain ⟨_, hl7, hat⟩ := World.cells?_some hcs
      have h0 := hat 0 (by omega)
      obtain ⟨c0, hc0⟩ : ∃ c0, cs[0]? = some c0 := ⟨cs[0]'(by omega), List.getElem?_eq_getElem (by omega)⟩
      rw [hc0] at h0
      obtain ⟨x, o, sp⟩ := a'
      cases sp with
      | none => rfl
      | some s => simp [Addr.add, World.cell?] at h0; split at h0 <;> simp at h0
    have each : ∀ i, i < len → ∃ x : α, (∀ j u, (S.cells x)[j]? = some u → W.cell? ⟨a'.block, a'.off + (i * S.k + j), none⟩ = some u) ∧ Pr x := fun i hlt => by
      obtain ⟨cs, hcs, ht⟩ := hi i (by omega)
      rw [hk] at hcs
      obtain ⟨_, hl7, hat⟩ := World.cells?_some hcs
      obtain ⟨x, hx1, hx2⟩ := elem cs _ _ hl7 ht (fun q hq => hz q (by
        rw [hd]
        simp only [DataW.weights, S.under]
        exact List.mem_cons_of_mem _ (List.mem_append_left _ (weights_all (List.mem_map.2 ⟨i, List.mem_range.2 hlt, rfl⟩) q hq))))
      refine ⟨x, fun j u hu => ?_, hx2⟩
      rw [← hx1] at hu
      have hj : j < S.k := by rw [← hl7]; exact (List.getElem?_eq_some_iff.1 hu).1
      have := hat j hj
      rw [hu] at this
      have hs := hsp (by omega)
      obtain ⟨b, o, sp⟩ := a'
      simp at hs
      subst hs
      rw [Addr.add_mid, Addr.add_mid, Nat.add_assoc] at this
      exact this
    obtain ⟨f, hfc⟩ := choose_lt each
    refine ⟨(List.range len).map f, ⟨some a', m, by simp, by simpa using hl, (fun h => by cases h), ?_⟩, by simpa using hlen, fun x hx => ?_⟩
    · by_cases h0 : len = 0
      · subst h0; exact .inl rfl
      · have hs := hsp (by omega)
        obtain ⟨b, o, sp⟩ := a'
        simp at hs
        subst hs
        have hat : ∀ i, i < len → ∀ j u, (S.cells (f i))[j]? = some u → W.cell? ⟨b, o + (i * S.k + j), none⟩ = some u := fun i hi2 => (hfc i hi2).1
        refine .inr ⟨b, o, rfl, ?_, fun j u hu => ?_⟩
        · have hz0 : 0 < (S.cells (f 0)).length := by rw [S.len]; exact hkp
          exact World.block_lt_of_cell? _ _ (hat 0 (by omega) 0 _ (List.getElem?_eq_getElem hz0))
        · have hj := (List.getElem?_eq_some_iff.1 hu).1
          rw [all_len, List.length_map, List.length_range] at hj
          have hq : j / S.k < len := (Nat.div_lt_iff_lt_mul hkp).2 hj
          have hr : j % S.k < S.k := Nat.mod_lt _ hkp
          have e : j / S.k * S.k + j % S.k = j := by rw [Nat.mul_comm]; exact Nat.div_add_mod ..
          have h2 := all_at S ((List.range len).map f) (j / S.k) (f (j / S.k)) (by rw [List.getElem?_map, List.getElem?_range hq]; rfl) (j % S.k) hr
          rw [e, hu] at h2
          have := hat (j / S.k) hq (j % S.k) u h2.symm
          rw [e] at this
          exact this
    · obtain ⟨i, hi2, rfl⟩ := List.mem_map.1 hx
      exact (hfc i (List.mem_range.1 hi2)).2

set_option maxRecDepth 100000 in
/-- texts that come in -/
theorem strs_in {fuel : Nat} {v : Value} {d : DataW H × List MemPlace} (hf : DataW.trod enc Try.prog W 0 (fun _ => true) true fuel 34 [v] = some d) (hz : ∀ n ∈ d.1.weights Try.prog 34, n ≤ 140737488351232) :
    ∃ l : List ByteArray, Is strS W v l ∧ l.length ≤ 140737488351232 ∧ ∀ x ∈ l, x.size ≤ 140737488351232 := by
  haveI : Inhabited ByteArray := ⟨⟨#[]⟩⟩
  refine is_arg strS hf (by have : Try.prog.bytesOf 9 = 16 := by kernel_rfl
                            exact (show 1 ≤ Try.prog.bytesOf 9 by omega)) (by kernel_rfl) (fun s => s.size ≤ 140737488351232) (fun cs m y hl ht hw => ?_) hz
  obtain ⟨s, e, x, _⟩ := DataW.trod_string Try.underlying9 ht
  exact ⟨s, e, hw _ (by rw [x]; simp [DataW.weights])⟩
end
end Go.Proofs.Ytfcibccipkokoaa.Seq
