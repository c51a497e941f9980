/-
  Plain mathematics: what an iterator over frames hands out, and how far it has come.
-/
import Derived.Test.YtgohpompgiljiaaZ23
namespace Go.Proofs.Ytgohpompgiljiaa.Frame

/-- what one hands out: a text, and that it is one -/
def fine (x : ByteArray) : ByteArray × Nat := (x, 0)
/-- how many bytes the frames of these have, as the code counts -/
def szN (n : Nat) : Nat := if 1 ≤ n ∧ n ≤ 4096 then n + 14 else 0
def tot (l : List ByteArray) : Nat := (l.map fun x => szN x.size).sum
theorem tot_snoc (l : List ByteArray) (x : ByteArray) : tot (l ++ [x]) = tot l + szN x.size := by simp [tot]
theorem tot_le (l : List ByteArray) : tot l ≤ 4110 * l.length := by
  induction l with
  | nil => exact Nat.le_refl _
  | cons x l ih =>
    have h : tot (x :: l) = szN x.size + tot l := by simp [tot]
    have : szN x.size ≤ 4110 := by unfold szN; split <;> omega
    rw [h, List.length_cons]
    omega
/-- a text that one can hand out -/
def clip (x : ByteArray) : ByteArray := if x.size ≤ 4096 then x else ⟨#[]⟩
theorem clip_le (x : ByteArray) : (clip x).size ≤ 4096 := by
  unfold clip
  split
  · assumption
  · exact Nat.zero_le _
theorem clip_of {x : ByteArray} (h : x.size ≤ 4096) : clip x = x := by unfold clip; rw [if_pos h]
theorem decS_le (t : ByteArray) (lsn : Nat) : (decS t lsn).size ≤ 4096 := by
  unfold decS
  split
  · rename_i h
    have := dec_yes h
    rw [ByteArray.size_extract]
    omega
  · exact Nat.zero_le _
/-- as `At`, and the code's count is right -/
structure Ats (s : ByteArray) (lsn : Nat) (xs : List ByteArray) (u : Nat) : Prop where
  a : At s lsn xs u
  t : tot xs = u
  c : xs.map clip = xs
theorem Ats.start (s : ByteArray) {lsn : Nat} (h : lsn < 18446744073709551616) : Ats s lsn [] 0 := ⟨At.start s h, rfl, rfl⟩
theorem Ats.step {s : ByteArray} {lsn : Nat} {xs : List ByteArray} {u : Nat} (h : Ats s lsn xs u) (he : decE (s.extract u s.size) (up lsn u) = 0) :
    Ats s lsn (xs ++ [decS (s.extract u s.size) (up lsn u)]) (u + decU (s.extract u s.size) (up lsn u)) := by
  refine ⟨h.a.step he, ?_, by rw [List.map_append, h.c, List.map_cons, clip_of (decS_le _ _), List.map_nil]⟩
  have hd := dec_yes he
  rw [tot_snoc, h.t]
  unfold decS decU
  rw [if_pos he, if_pos he, ByteArray.size_extract]
  unfold szN
  rw [if_pos (by omega)]
  omega
/-- all that may come, to the end -/
def AllF (s : ByteArray) (lsn : Nat) (ys : List (ByteArray × Nat)) : Prop :=
  (∃ xs : List ByteArray, ys = xs.map fine ∧ scn s lsn = (xs.map clip, tot (xs.map clip), 0)) ∨ ∃ ps x, ys = ps ++ [x] ∧ x.2 ≠ 0
/-- what may have come where a round has said: no more -/
def PartF (s : ByteArray) (lsn : Nat) (ys : List (ByteArray × Nat)) : Prop :=
  ∃ (xs : List ByteArray) (x : ByteArray × Nat), ys = xs.map fine ++ [x] ∧ (x.2 ≠ 0 → scn s lsn = (xs.map clip, tot (xs.map clip), x.2))
theorem Ats.all {s : ByteArray} {lsn : Nat} {xs : List ByteArray} {u : Nat} (h : Ats s lsn xs u) (hu : ¬ u < s.size) : AllF s lsn (xs.map fine) :=
  .inl ⟨xs, rfl, by rw [h.c, h.t]; exact h.a.done hu⟩
theorem Ats.part {s : ByteArray} {lsn : Nat} {xs : List ByteArray} {u : Nat} (h : Ats s lsn xs u) (hu : u < s.size) (d : ByteArray) : PartF s lsn (xs.map fine ++ [(d, decE (s.extract u s.size) (up lsn u))]) :=
  ⟨xs, _, rfl, fun he => by rw [h.c, h.t]; exact h.a.stop hu he⟩
theorem Ats.bad {s : ByteArray} {lsn e : Nat} {xs : List ByteArray} {d : ByteArray} (he : e ≠ 0) : AllF s lsn (xs.map fine ++ [(d, e)]) := .inr ⟨_, _, rfl, he⟩
/-- of one whose rounds said no more at an error: nothing but texts came to the end -/
theorem AllF.fine {s : ByteArray} {lsn : Nat} {xs : List ByteArray} (h : AllF s lsn (xs.map fine)) : scn s lsn = (xs.map clip, tot (xs.map clip), 0) := by
  rcases h with ⟨ys, h1, h2⟩ | ⟨ps, x, h1, h2⟩
  · have : xs = ys := by
      have := congrArg (List.map Prod.fst) h1
      simpa [Frame.fine, Function.comp_def] using this
    rw [this]; exact h2
  · have hm : x ∈ xs.map Frame.fine := by rw [h1]; simp
    obtain ⟨y, _, hy⟩ := List.mem_map.1 hm
    exact absurd (by rw [← hy]; rfl) h2
theorem PartF.at {s : ByteArray} {lsn e : Nat} {xs : List ByteArray} {d : ByteArray} (h : PartF s lsn (xs.map fine ++ [(d, e)])) (he : e ≠ 0) : scn s lsn = (xs.map clip, tot (xs.map clip), e) := by
  obtain ⟨ys, x, h1, h2⟩ := h
  obtain ⟨h3, h4⟩ := List.append_inj' h1 rfl
  have : xs = ys := by
    have := congrArg (List.map Prod.fst) h3
    simpa [Frame.fine, Function.comp_def] using this
  have hx : (d, e) = x := by simpa using h4
  subst hx
  rw [this]
  exact h2 he

end Go.Proofs.Ytgohpompgiljiaa.Frame
