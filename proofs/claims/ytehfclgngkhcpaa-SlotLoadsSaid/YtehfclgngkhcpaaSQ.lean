/- Plain mathematics: what Put, Set, Remove do to an area's bytes. -/
import Derived.Test.YtehfclgngkhcpaaSP
namespace Go.Proofs.Ytehfclgngkhcpaa.Slot

section
variable {b : List UInt8} {a : A}
theorem set_at_mid {T : Type} (l m : List T) (x y : T) : (l ++ x :: m).set l.length y = l ++ y :: m := by simp
theorem stand_all (h : Is b a) (hf : a.fin ≤ a.n) {t : List UInt8} (hr : a.fin + t.length ≤ a.low) (hl : a.low ≤ a.n) (hn : a.n ≤ 4096) {i : Nat} (hi : i < a.dir.length) :
    Is (pointB (standB b t) i (a.low - t.length, t.length)) (a.setAt i t) ∧ (standB b t).length = a.n := by
  have hs := is_stand h hf hr hl hn
  have hlen : (standB b t).length = a.n := by
    rw [hs.len]
    show (a.lay t).length = a.n
    unfold A.lay
    rw [putL_len (by show _ ≤ a.n; omega)]; rfl
  have hl2 : (a.lay t).length = a.n := by rw [← hlen, hs.len]; rfl
  exact ⟨is_point hs (by show a.fin ≤ (a.lay t).length; rw [hl2]; exact hf) hi (by simp only; omega) (by simp only; omega), hlen⟩
theorem put_all (h : Is b a) (hk : a.ok) {i : Nat} (hi : i ≤ a.dir.length) {t : List UInt8} (hr : a.fin + 4 + t.length ≤ a.low) :
    Is (pointB (standB (opened b i a.dir.length) t) i (a.low - t.length, t.length)) (a.putAt i t) ∧ numL (opened b i a.dir.length) 2 = a.low ∧ (opened b i a.dir.length).length = a.n ∧ (standB (opened b i a.dir.length) t).length = a.n := by
  have hl := hk.low
  have ho := is_open h hi (by omega) hk.hi
  have hn : (opened b i a.dir.length).length = a.n := ho.len
  have hd : (a.dir.take i ++ (spotB (opened b i a.dir.length) i) :: a.dir.drop i).length = a.dir.length + 1 := by simp; omega
  have hf : A.fin ⟨a.cells, a.low, a.dir.take i ++ (spotB (opened b i a.dir.length) i) :: a.dir.drop i⟩ = a.fin + 4 := by unfold A.fin; rw [hd]; omega
  obtain ⟨h1, h2⟩ := stand_all ho (by rw [hf]; show _ ≤ a.n; omega) (t := t) (by rw [hf]; exact hr) hl hk.hi (i := i) (by show i < (a.dir.take i ++ (spotB (opened b i a.dir.length) i) :: a.dir.drop i).length; rw [hd]; omega)
  refine ⟨?_, ho.low, hn, h2⟩
  have e : A.setAt ⟨a.cells, a.low, a.dir.take i ++ (spotB (opened b i a.dir.length) i) :: a.dir.drop i⟩ i t = a.putAt i t := by
    show A.mk _ _ ((a.dir.take i ++ (spotB (opened b i a.dir.length) i) :: a.dir.drop i).set i (a.low - t.length, t.length)) = A.mk _ _ _
    congr 1
    have hk : (a.dir.take i).length = i := by rw [List.length_take]; omega
    have := set_at_mid (a.dir.take i) (a.dir.drop i) (spotB (opened b i a.dir.length) i) (a.low - t.length, t.length)
    rwa [hk] at this
  rw [← e]
  exact h1
theorem inPlace_all (h : Is b a) (hk : a.ok) {i : Nat} (hi : i < a.dir.length) {t : List UInt8} (ht : t.length ≤ (a.at i).2) :
    Is (pointB (putL b (a.at i).1 t) i ((a.at i).1, t.length)) (a.inPlace i t) ∧ (putL b (a.at i).1 t).length = a.n := by
  have he := hk.each i hi
  have hf := hk.fin
  have hl := hk.low
  have hhi := hk.hi
  have h1 := is_put h (by omega) (k := (a.at i).1) (t := t) (by omega) (by omega)
  have hl2 : (putL a.cells (a.at i).1 t).length = a.n := by rw [putL_len (by show _ ≤ a.n; omega)]; rfl
  exact ⟨is_point h1 (by show a.fin ≤ (putL a.cells (a.at i).1 t).length; rw [hl2]; omega) hi (by simp only; omega) (by simp only; omega), by rw [h1.len]; exact hl2⟩
theorem hollow_all (h : Is b a) (hk : a.ok) {i : Nat} (hi : i < a.dir.length) : Is (pointB b i ((a.at i).1, 0)) (a.hollow i) := by
  have he := hk.each i hi
  have hf := hk.fin
  have hl := hk.low
  have hhi := hk.hi
  exact is_point h (by omega) hi (by simp only; omega) (by simp only; omega)
end

end Go.Proofs.Ytehfclgngkhcpaa.Slot
