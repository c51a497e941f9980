/- Walks: Copy. -/
import Derived.Test.YtehfclgngkhcpaaDA
import Derived.Shelf.SlMaps.Clone
import Derived.Maps.AppendAt
import Derived.OwnWalk
namespace Go.Proofs.Ytehfclgngkhcpaa.Disk
open Go.RowKit
attribute [local go_sem ↓] Go.wp_at_zero Go.wp_at_succ

theorem wpList_append_run {P : Program} {w : World} {ops : Array Oper} {rest : List Oper} {o : Oper} {a : Act} {Q : Exit → Act → World → Prop} (hgd : o.guard = none) (s x : Operand) (t : TypeId)
    (ho : o.op = .call { callee := .builtin .append, args := #[s, x], argTypes := #[t, t] }) (ty : TypeId) (hty : o.type = ty) (vs vx v' : Value) (w' : World) (hs : a.eval s = vs) (hx : a.eval x = vx)
    (hr : (Builtin.append_ #[t, t] ty #[vs, vx]).run P w = .ok v' w') (h : wpList P ops Q rest (a.put o.dst v') w') : wpList P ops Q (o :: rest) a w := by
  subst hty
  refine wpList_plain hgd fun K hK => ?_
  unfold Oper.wp execOp
  simp only [ho, resolve, invoke, builtin, Sem.run_bind, Sem.run_pure, Result.andThen_ok, List.map_toArray, List.map_cons, List.map_nil, hs, hx, hr]
  exact hK _ _ h

/-- v is a new row with these cells -/
def CloneOf (e : TypeId) (size n : Nat) (xs : List Value) (w : World) (v : Value) (w' : World) : Prop :=
  w'.ownsRow 0 e size v n xs ∧ (∀ b, v.ownBlock = some b → w.heap.size ≤ b ∧ b < w'.heap.size) ∧ Below w.heap.size w w'

theorem clone_own {w : World} {t e : TypeId} {i : TypeInfo} {z : Value} {size bytes n cap g : Nat} {xs : List Value} (ht : Try.prog.underlying t = some (.slice e)) (hi : Try.prog.info? e = some i) (hz : i.zero = some z) (hs : i.size = size) (hb : i.bytes = bytes) (hzs : z.cells.size = size) (hsz : 0 < size)
    (h : w.ownsRow 0 e size (.slice (some ⟨g, 0, none⟩) n cap) n xs) (h1 : ∀ u ∈ xs, u.oneCell' = true) (hn : n ≤ 1000000000) (hby : n * bytes ≤ 140737488355328) (ty : TypeId) :
    ∃ v' w', (Builtin.append_ #[t, t] ty #[.slice (some ⟨w.heap.size, 0, none⟩) 0 0, .slice (some ⟨g, 0, none⟩) n cap]).run Try.prog (w.alloc (.cells #[] e)) = .ok v' w' ∧ CloneOf e size n xs w v' w' := by
  have ho := World.ownsRow_made w (base := w.heap.size) (e := e) (size := size) #[] 0 (Nat.le_refl _) (Nat.zero_le _) (by simp)
  have hc : ∀ j u, xs[j]? = some u → (w.alloc (.cells #[] e)).cell? ((⟨g, 0, none⟩ : Addr).add j) = some u := (h.alloc (.cells #[] e)).cells rfl
  obtain ⟨v', w', hr, h2, h3, _, h5⟩ := run_append_own_at (P := Try.prog) (w.alloc (.cells #[] e)) w.heap.size t ty e i z size bytes ht hi hz hs hb hzs hsz _ 0 [] ho ⟨g, 0, none⟩ n cap xs h.1 hc h1 (by unfold maxLen; omega) (by simpa using hby) (by simp)
  have hB : Below w.heap.size w w' := ((Below.refl _ _).alloc (Nat.le_refl _) _).grown h3 (by simp) (fun k hk => by simp [Value.ownBlock] at hk; omega)
  rw [Nat.zero_add, List.nil_append] at h2
  refine ⟨v', w', hr, ⟨h2.1, ?_⟩, fun b hb => h2.lt b hb, hB⟩
  rcases h2.2 with h4 | ⟨g', c', cur, h4, h6, rest⟩
  · exact .inl h4
  · exact .inr ⟨g', c', cur, h4, Nat.zero_le _, rest⟩

theorem CloneOf.form {e : TypeId} {size n : Nat} {xs : List Value} {w w' : World} {v : Value} (h : CloneOf e size n xs w v w') : ∃ a c, v = .slice a n c := by
  rcases h.1.2 with ⟨h1, h2⟩ | ⟨g, c, _, h1, _⟩
  · exact ⟨none, 0, by rw [h1, h2]⟩
  · exact ⟨_, _, h1⟩
theorem flat_one (ss : List (List UInt8)) : ∀ v ∈ flat ss, v.oneCell' = true := by
  rw [flat_eq]; exact byteCells_one _
theorem flatW_one (l : List (Nat × List UInt8)) : ∀ v ∈ flatW l, v.oneCell' = true := by
  intro v hv
  simp only [flatW, List.mem_flatMap] at hv
  obtain ⟨x, _, hv⟩ := hv
  exact cellsW_one x v hv

set_option maxHeartbeats 1000000 in
theorem clone_sure {w : World} {n cap g : Nat} {ss : List (List UInt8)} (h : w.ownsRow 0 79 128 (.slice (some ⟨g, 0, none⟩) n cap) n (flat ss)) (hn : n ≤ 16384) :
    Calls Try.prog 45 #[.slice (some ⟨g, 0, none⟩) n cap] w fun e w' => ∃ a c, e = .returned (.slice a n c) ∧ CloneOf 79 128 n (flat ss) w (.slice a n c) w' := by
  obtain ⟨i, hi, hz, hs, hby⟩ := info_parts infoS
  obtain ⟨v', w', hr, hc⟩ := clone_own (w := w) Try.underlying73 hi hz hs hby (by simp [Value.cells]) (by omega) h (flat_one ss) (by omega) (by omega) 73
  obtain ⟨a', c', rfl⟩ := hc.form
  have HC := Lib.hid hc
  have HR := Lib.hid hr
  have q := fun w => Lib.run_eql_slice_nil (P := Try.prog) w 73 79 (some ⟨g, 0, none⟩) n cap 0 0 Try.underlying73
  clear hi hz hs hby h hc hr
  go_enter Try.func45, Try.ntmps45
  go_wp2_with (at_builtin; refine wpList_append_run rfl _ _ _ rfl 73 rfl _ _ _ w' rfl rfl HR.out ?_)
  go_ret
  exact ⟨_, _, rfl, HC.out⟩

theorem CloneOf.nil (w : World) (e : TypeId) (size : Nat) : CloneOf e size 0 [] w (.slice none 0 0) w := ⟨World.ownsRow_nil _ _ _ _, by simp [Value.ownBlock], Below.refl _ _⟩
set_option maxHeartbeats 1000000 in
theorem clone_loose {w : World} {lv : Value} {l : List (Nat × List UInt8)} (h : w.ownsRow 0 83 129 lv l.length (flatW l)) (hn : l.length ≤ 1000000000) :
    Calls Try.prog 46 #[lv] w fun e w' => ∃ a c, e = .returned (.slice a l.length c) ∧ CloneOf 83 129 l.length (flatW l) w (.slice a l.length c) w' := by
  rcases h.2 with ⟨rfl, h0⟩ | ⟨g, cap, _, rfl, _⟩
  · have hl : l = [] := List.eq_nil_of_length_eq_zero h0
    subst hl
    have HC := Lib.hid (CloneOf.nil w 83 129)
    have q := fun w => Lib.run_eql_slice_nil (P := Try.prog) w 74 83 none 0 0 0 0 Try.underlying74
    clear h h0 hn
    go_enter Try.func46, Try.ntmps46
    go_wp2_with fail
    go_ret
    exact ⟨_, _, rfl, HC.out⟩
  · obtain ⟨i, hi, hz, hs, hby⟩ := info_parts infoW
    obtain ⟨v', w', hr, hc⟩ := clone_own (w := w) Try.underlying74 hi hz hs hby (by simp [Value.cells]) (by omega) h (flatW_one l) (by omega) (by omega) 74
    obtain ⟨a', c', rfl⟩ := hc.form
    have HC := Lib.hid hc
    have HR := Lib.hid hr
    have q := fun w => Lib.run_eql_slice_nil (P := Try.prog) w 74 83 (some ⟨g, 0, none⟩) l.length cap 0 0 Try.underlying74
    clear hi hz hs hby h hc hr
    go_enter Try.func46, Try.ntmps46
    go_wp2_with (at_builtin; refine wpList_append_run rfl _ _ _ rfl 74 rfl _ _ _ w' rfl rfl HR.out ?_)
    go_ret
    exact ⟨_, _, rfl, HC.out⟩

/-- a new map that tells the same -/
def CloneMap (l : List (Nat × List UInt8)) (w : World) (v : Value) (w' : World) : Prop :=
  Newest w' v l ∧ (∀ b, v = .map (some b) → w.heap.size ≤ b ∧ b < w'.heap.size) ∧ Below w.heap.size w w'
theorem CloneMap.of {l : List (Nat × List UInt8)} {w : World} {b : Nat} {D : DataW Unit} {es : Array MapEntry} {clock : Nat} (hb : w.heap[b]? = some (.map es clock)) (hown : w.ownsMap Try.prog 3 (plainElem Try.prog 3) b l.length D)
    (hD : ∀ k : Nat, Maps.has D (.int .i64 k) = (newest l k).isSome ∧ ∀ i, newest l k = some i → D.atKey (.int .i64 k) (.lit (.int .i64 0)) = .lit (.int .i64 i)) : CloneMap l w (.map (some w.heap.size)) (w.alloc (.map es clock)) := by
  refine ⟨.inr ⟨w.heap.size, D, rfl, ?_, hD⟩, fun c hc => ?_, (Below.refl _ _).alloc (Nat.le_refl _) _⟩
  · obtain ⟨es', clock', h1, rest⟩ := hown
    rw [hb] at h1
    simp at h1
    obtain ⟨rfl, rfl⟩ := h1
    exact ⟨es, clock, heap_alloc_new _ _, rest⟩
  · cases hc
    exact ⟨Nat.le_refl _, by simp⟩

set_option maxRecDepth 100000 in
set_option maxHeartbeats 2000000 in
theorem clone_map {w : World} {mv : Value} {l : List (Nat × List UInt8)} (h : Newest w mv l) :
    Calls Try.prog 47 #[mv] w fun e w' => ∃ r, e = .returned (.map r) ∧ CloneMap l w (.map r) w' := by
  rcases h with ⟨rfl, rfl⟩ | ⟨b, D, rfl, hown, hD⟩
  · have q := fun w => run_eql_map_nil (P := Try.prog) w 75 _ _ none Try.underlying75
    go_enter Try.func47, Try.ntmps47
    go_wp2_with fail
    go_ret
    exact ⟨_, rfl, .inl ⟨rfl, rfl⟩, by simp, Below.refl _ _⟩
  · have q := fun w => run_eql_map_nil (P := Try.prog) w 75 _ _ (some b) Try.underlying75
    obtain ⟨es, clock, hb, rest⟩ := hown
    have HC := Lib.hid (CloneMap.of hb ⟨es, clock, hb, rest⟩ hD)
    clear rest hD
    go_enter Try.func47, Try.ntmps47
    go_wp2_with fail
    rw [run_callFunc_extern Try.func87 (by kernel_rfl) (by kernel_rfl) (by kernel_rfl) (e := Extern.MapsClone.clone) (by kernel_rfl), run_maps_clone_sl w 75 hb]
    simp only [Result.andThen]
    rw [Oper.upon_value]
    go_wp2_with fail
    rw [run_typeAssert_map_sl _ 75 20 _ _ _ Try.underlying75]
    simp only [Result.andThen]
    rw [Oper.upon_value]
    go_wp2_with fail
    go_ret
    exact ⟨_, rfl, HC.out⟩

/-- while a disk is copied it stays as it is -/
def CopyS (w : World) (p gs sc : Nat) (lv mv : Value) (d : D) (w' : World) : Prop := Lay w' p gs sc lv mv d ∧ Below w.heap.size w w'
theorem Lay.later {w w' : World} {p gs sc : Nat} {lv mv : Value} {d : D} (L : Lay w p gs sc lv mv d) (t : Below w.heap.size w w') : Lay w' p gs sc lv mv d := by
  refine ⟨(t.block p (Array.getElem?_eq_some_iff.1 L.head).1).trans L.head, ownsRow_far L.sure fun b hb => t.block b (L.sure.lt b hb).2, ownsRow_far L.loose fun b hb => t.block b (L.loose.lt b hb).2, L.newest.far fun b hb => t.block b ?_⟩
  rcases L.newest with ⟨h1, _⟩ | ⟨b', D, h1, h2, _⟩
  · rw [h1] at hb; cases hb
  · rw [h1] at hb; cases hb; exact h2.lt
theorem CopyS.call {w X w' : World} {p gs sc : Nat} {lv mv : Value} {d : D} (h : CopyS w p gs sc lv mv d X) (t : Below X.heap.size X w') : CopyS w p gs sc lv mv d w' :=
  ⟨h.1.later t, h.2.trans (t.mono h.2.size)⟩
theorem CopyS.all {w X : World} {p gs sc : Nat} {lv mv : Value} {d : D} (h : CopyS w p gs sc lv mv d X) :
    X.cell? ⟨p, 0, none⟩ = some (.slice (some ⟨gs, 0, none⟩) d.sure.length sc) ∧ X.cell? ⟨p, 1, none⟩ = some lv ∧ X.cell? ⟨p, 2, none⟩ = some mv ∧ X.cell? ⟨p, 3, none⟩ = some (.int .i64 d.fuse) ∧ CopyS w p gs sc lv mv d X :=
  ⟨h.1.cell0, h.1.cell1, h.1.cell2, h.1.cell3, h⟩

theorem copy_end {w X1 w1 w2 w3 : World} {d : D} {a1 a2 : Option Addr} {c1 c2 : Nat} {r : Option Nat} (hok : d.ok) (hb : Below w.heap.size w X1) (h1 : CloneOf 79 128 d.sure.length (flat d.sure) X1 (.slice a1 d.sure.length c1) w1)
    (h2 : CloneOf 83 129 d.loose.length (flatW d.loose) w1 (.slice a2 d.loose.length c2) w2) (h3 : CloneMap d.loose w2 (.map r) w3) :
    Rep (w3.alloc (.cells #[.slice a1 d.sure.length c1, .slice a2 d.loose.length c2, .map r, .int .i64 d.fuse] 77)) w3.heap.size d (Fresh w (w3.alloc (.cells #[.slice a1 d.sure.length c1, .slice a2 d.loose.length c2, .map r, .int .i64 d.fuse] 77))) ∧
      Below w.heap.size w (w3.alloc (.cells #[.slice a1 d.sure.length c1, .slice a2 d.loose.length c2, .map r, .int .i64 d.fuse] 77)) := by
  have z := hb.size
  have z1 := h1.2.2.size
  have z2 := h2.2.2.size
  have z3 := h3.2.2.size
  have one := hok.one
  obtain ⟨g, rfl⟩ : ∃ g, a1 = some ⟨g, 0, none⟩ := by
    rcases h1.1.2 with ⟨_, h0⟩ | ⟨g, cap, cur, hv, _⟩
    · omega
    · simp at hv; exact ⟨g, hv.1⟩
  have hg := h1.2.1 g rfl
  have B3 : Below w2.heap.size w2 (w3.alloc (.cells #[.slice (some ⟨g, 0, none⟩) d.sure.length c1, .slice a2 d.loose.length c2, .map r, .int .i64 d.fuse] 77)) := h3.2.2.alloc z3 _
  have B2 : Below w1.heap.size w1 (w3.alloc (.cells #[.slice (some ⟨g, 0, none⟩) d.sure.length c1, .slice a2 d.loose.length c2, .map r, .int .i64 d.fuse] 77)) := h2.2.2.trans (B3.mono z2)
  have z4 : (w3.alloc (.cells #[.slice (some ⟨g, 0, none⟩) d.sure.length c1, .slice a2 d.loose.length c2, .map r, .int .i64 d.fuse] 77)).heap.size = w3.heap.size + 1 := by simp
  refine ⟨⟨hok, ⟨g, c1, .slice a2 d.loose.length c2, .map r, ⟨heap_alloc_new w3 _, ?_, ?_, ?_⟩, ⟨by omega, by omega⟩, ⟨by omega, by omega⟩, fun b hb => ?_, fun b hb => ?_⟩, fun b hb => hb.2⟩, hb.trans ((h1.2.2.trans (B2.mono z1)).mono z)⟩
  · exact ownsRow_far h1.1 fun b hb => B2.block b (h1.2.1 b hb).2
  · exact ownsRow_far h2.1 fun b hb => B3.block b (h2.2.1 b hb).2
  · exact h3.1.far fun b hb => Below.heap_alloc w3 _ b (h3.2.1 b hb).2
  · have := h2.2.1 b hb
    exact ⟨by omega, by omega⟩
  · have := h3.2.1 b hb
    exact ⟨by omega, by omega⟩

set_option maxRecDepth 100000 in
set_option maxHeartbeats 4000000 in
theorem copy_any {w : World} {p : Nat} {d : D} {F : Nat → Prop} (h : Rep w p d F) (hl : d.loose.length ≤ 1000000000) :
    Calls Try.prog 16 #[.pointer (some ⟨p, 0, none⟩)] w fun e w' => ∃ q, e = .returned (.pointer (some ⟨q, 0, none⟩)) ∧ Rep w' q d (Fresh w w') ∧ Below w.heap.size w w' := by
  have m := made_any h
  have hok := Lib.hid h.ok
  have hmost := h.ok.most
  obtain ⟨gs, sc, lv, mv, L, _⟩ := h.lay
  have S0 := Lib.hid (show CopyS w p gs sc lv mv d w.drew from ⟨L.later ((Below.refl _ w).drew), (Below.refl _ w).drew⟩)
  clear h L
  go_enter Try.func16, Try.ntmps16
  go_wp2_with (go_at_call 44; refine m.mono ?_; rintro e w' ⟨rfl, rfl⟩)
  go_region_held3 (fun w' => w'.cell? ⟨p, 0, none⟩ = some (.slice (some ⟨gs, 0, none⟩) d.sure.length sc) ∧ w'.cell? ⟨p, 1, none⟩ = some lv ∧ w'.cell? ⟨p, 2, none⟩ = some mv ∧ w'.cell? ⟨p, 3, none⟩ = some (.int .i64 d.fuse) ∧ CopyS w p gs sc lv mv d w')
    (first | exact S0.out.all | (go_split_ands; exact (CopyS.call ‹CopyS w p gs sc lv mv d _› hc3.2.2).all) | (go_split_ands; exact (CopyS.call ‹CopyS w p gs sc lv mv d _› hc2.2.2).all) | (go_split_ands; exact (CopyS.call ‹CopyS w p gs sc lv mv d _› hc1.2.2).all) | (go_split_ands; exact (CopyS.call ‹CopyS w p gs sc lv mv d _› ((Below.refl _ _).alloc (Nat.le_refl _) _)).all))
    (first | (go_at_call 45; refine Calls.mono (clone_sure (by go_split_ands; exact (‹CopyS w p gs sc lv mv d _›).1.sure) hmost) ?_; rintro e w' ⟨a1, c1, rfl, hc1⟩) | (go_at_call 46; refine Calls.mono (clone_loose (by go_split_ands; exact (‹CopyS w p gs sc lv mv d _›).1.loose) hl) ?_; rintro e w' ⟨a2, c2, rfl, hc2⟩) | (go_at_call 47; refine Calls.mono (clone_map (by go_split_ands; exact (‹CopyS w p gs sc lv mv d _›).1.newest)) ?_; rintro e w' ⟨r, rfl, hc3⟩))
  have CE := Lib.hid (copy_end hok.out ((Below.refl _ w).drew) hc1 hc2 hc3)
  clear hc1 hc2 hc3 S0 hok m
  go_wp2_with fail
  go_ret
  exact ⟨_, rfl, CE.out⟩

end Go.Proofs.Ytehfclgngkhcpaa.Disk
