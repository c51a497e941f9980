/- Calls and truths that come in. -/
import Derived.Test.YtfcibccipkokoaaDA
import Derived.Deep.Slices
import Derived.Deep.Fields
import Derived.Deep.Grids
import Derived.ChangeSame
import Derived.SizedLaws
namespace Go.Proofs.Ytfcibccipkokoaa.Disk
open Go.RowKit Go.ChangeShapes Go.WideShapes Go.Deep

/-- a call, as it comes in -/
structure Cl where
  op : Int
  k : Int
  c : UInt8
  odd : Bool
  s : ByteArray
  n : Int
  kv : Value
  keep : List Bool
instance : Inhabited Cl := ⟨⟨0, 0, 0, false, .empty, 0, .slice none 0 0, []⟩⟩

structure ClAt (w : World) (x o : Nat) (c : Cl) : Prop where
  c0 : w.cell? ⟨x, o, none⟩ = some (.int .u8 c.op)
  c1 : w.cell? ⟨x, o + 1, none⟩ = some (.int .i64 c.k)
  c2 : w.cell? ⟨x, o + 2, none⟩ = some (.int .u8 (c.c.toNat : Int))
  c3 : w.cell? ⟨x, o + 3, none⟩ = some (.bool c.odd)
  c4 : w.cell? ⟨x, o + 4, none⟩ = some (.string c.s)
  c5 : w.cell? ⟨x, o + 5, none⟩ = some (.int .i64 c.n)
  c6 : w.cell? ⟨x, o + 6, none⟩ = some c.kv
  keep : Bools w c.kv c.keep
  op : 0 ≤ c.op ∧ c.op ≤ 255
  k : -9223372036854775808 ≤ c.k ∧ c.k ≤ 9223372036854775807
  n : -9223372036854775808 ≤ c.n ∧ c.n ≤ 9223372036854775807
  s : c.s.size ≤ 140737488351232
  keepn : c.keep.length ≤ 140737488351232

/-- v is a slice of these calls -/
def IsCalls (w : World) (v : Value) (l : List Cl) : Prop :=
  ∃ a cap, v = .slice a l.length cap ∧ ∀ i c, l[i]? = some c → ∃ x o, a = some ⟨x, o, none⟩ ∧ ClAt w x (o + i * 7) c

theorem Bools.later {w w' : World} {v : Value} {l : List Bool} (h : Bools w v l) (t : Below w.heap.size w w') : Bools w' v l := h.far fun b _ hlt => t.block b hlt
theorem ClAt.later {w w' : World} {x o : Nat} {c : Cl} (h : ClAt w x o c) (t : Below w.heap.size w w') : ClAt w' x o c := by
  have hx : x < w.heap.size := block_lt_of_cell h.c0
  have e : ∀ j, w'.cell? ⟨x, j, none⟩ = w.cell? ⟨x, j, none⟩ := fun j => t.cell (p := ⟨x, j, none⟩) hx
  exact ⟨(e _).trans h.c0, (e _).trans h.c1, (e _).trans h.c2, (e _).trans h.c3, (e _).trans h.c4, (e _).trans h.c5, (e _).trans h.c6, h.keep.later t, h.op, h.k, h.n, h.s, h.keepn⟩
theorem IsCalls.later {w w' : World} {v : Value} {l : List Cl} (h : IsCalls w v l) (t : Below w.heap.size w w') : IsCalls w' v l := by
  obtain ⟨a, cap, hv, hc⟩ := h
  refine ⟨a, cap, hv, fun i c hi => ?_⟩
  obtain ⟨x, o, ha, h1⟩ := hc i c hi
  exact ⟨x, o, ha, h1.later t⟩

section
variable {H : Type} {enc : TypeId × Value → H} {W : World}

theorem weights_all {P : Program} {e : TypeId} : ∀ {l : List (DataW H)} {d : DataW H}, d ∈ l → ∀ n ∈ d.weights P e, n ∈ DataW.weightsAll P e l
  | [], _, h, _, _ => by cases h
  | x :: r, d, h, n, hn => by
    simp only [DataW.weightsAll, List.mem_append]
    rcases List.mem_cons.1 h with rfl | h
    · exact .inl hn
    · exact .inr (weights_all h n hn)

set_option maxRecDepth 100000 in
/-- a slice of truths -/
theorem bools_of {fuel : Nat} {v : Value} {y : DataW H × List MemPlace} (h : DataW.trod enc Try.prog W 0 (fun _ => true) true fuel 102 [v] = some y) (hz : ∀ n ∈ y.1.weights Try.prog 102, n ≤ 140737488351232) :
    ∃ l : List Bool, Bools W v l ∧ l.length ≤ 140737488351232 := by
  rcases open_bools Try.underlying102 Try.underlying4 (by kernel_rfl) h with ⟨h1, _⟩ | ⟨a, len, cap, B, h1, _, hl, hm, hx, hc⟩
  · simp at h1
    subst h1
    exact ⟨[], ⟨none, 0, rfl, by simp⟩, by simp⟩
  · simp at h1
    subst h1
    refine ⟨(List.range len).map B, ⟨some a, cap, by simp, fun j b hb => ?_⟩, ?_⟩
    · simp only [List.getElem?_map, Option.map_eq_some_iff] at hb
      obtain ⟨j', hj, rfl⟩ := hb
      have hj2 := List.getElem?_eq_some_iff.1 hj
      obtain ⟨hlt, e⟩ := hj2
      simp at hlt e
      subst e
      have h0 := hc 0 (by omega)
      have hj3 := hc j (by omega)
      obtain ⟨x, o, sp⟩ := a
      have hsp : sp = none := by
        cases sp with
        | none => rfl
        | some s => simp [Addr.add, World.cell?] at h0; split at h0 <;> simp at h0
      subst hsp
      exact ⟨x, o, rfl, by rw [Addr.add_mid] at hj3; exact hj3⟩
    · have e1 : y.1 = .slice ((List.range len).map fun i => .lit (.bool (B i))) ((List.range (cap - len)).map fun j => .lit (.bool (B (len + j)))) := by rw [hx]; rfl
      have hb1 : Try.prog.bytesOf 4 = 1 := by kernel_rfl
      have := hz ((((List.range len).map fun i => (DataW.lit (Lit.bool (B i)) : DataW H)).length + ((List.range (cap - len)).map fun j => (DataW.lit (Lit.bool (B (len + j))) : DataW H)).length) * Try.prog.bytesOf 4) (by
        rw [e1]
        simp only [DataW.weights, Try.underlying102]
        exact List.mem_cons_self ..)
      rw [hb1] at this
      simp at this ⊢
      omega

set_option maxRecDepth 100000 in
theorem bools_arg {B : Nat} {v : Value} {d : DataW H} {p : List MemPlace} (hv : Value.okWide Try.prog W .any B 102 v) (h : DataW.Trod enc Try.prog W 0 (fun _ => true) true 102 v d p)
    (hz : ∀ n ∈ d.weights Try.prog 102, n ≤ 140737488351232) : ∃ l : List Bool, Bools W v l ∧ l.length ≤ 140737488351232 := by
  obtain ⟨a, len, cap, rfl⟩ := okWide_slice Try.underlying102 hv
  obtain ⟨fuel, hf⟩ := h
  exact bools_of (y := (d, p)) hf hz

theorem wf_i64 {n : Int} (h : (Lit.int .i64 n).wf = true) : -9223372036854775808 ≤ n ∧ n ≤ 9223372036854775807 := by
  have h' : (decide (IntKind.i64.min ≤ n) && decide (n ≤ IntKind.i64.max)) = true := h
  simp only [Bool.and_eq_true, decide_eq_true_eq] at h'
  have e1 : IntKind.i64.min = -9223372036854775808 := by decide
  have e2 : IntKind.i64.max = 9223372036854775807 := by decide
  omega
theorem wf_u8 {n : Int} (h : (Lit.int .u8 n).wf = true) : 0 ≤ n ∧ n ≤ 255 := by
  have h' : (decide (IntKind.u8.min ≤ n) && decide (n ≤ IntKind.u8.max)) = true := h
  simp only [Bool.and_eq_true, decide_eq_true_eq] at h'
  have e1 : IntKind.u8.min = 0 := by decide
  have e2 : IntKind.u8.max = 255 := by decide
  omega

theorem cell_form {cs : List Value} {j : Nat} {v : Value} (h : cs[j]? = some v) : (cs.drop j).take 1 = [v] := by
  obtain ⟨hj, e⟩ := List.getElem?_eq_some_iff.1 h
  rw [List.drop_eq_getElem_cons hj, e]
  rfl

end
end Go.Proofs.Ytfcibccipkokoaa.Disk
