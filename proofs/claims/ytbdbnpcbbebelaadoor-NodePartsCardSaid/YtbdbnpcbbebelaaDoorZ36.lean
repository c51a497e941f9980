/-
  Walks: NodeParts.
-/
import Derived.Deep.RegionHeld3
import Derived.Deep.DrawnRows
import Derived.Test.YtbdbnpcbbebelaaDoorZ35
namespace Go.Proofs.YtbdbnpcbbebelaaDoor.Node
open Go.RowKit
open Go.Proofs.YtbdbnpcbbebelaaDoor.Page (Pg nth used pgV pgC CapOk zeroP info_page InPg heavyB sameB rows_head rows_tail)
open Go.Proofs.YtbdbnpcbbebelaaDoor.Row (Rw En encS entS decR decN okR okE mayR mayE rwV encE)
open Go.Proofs.YtbdbnpcbbebelaaDoor.Key (cmpOf)
attribute [local go_sem ↓] Go.wp_at_zero Go.wp_at_succ

/-! ### a text of zeros -/
def zerB (m : Nat) : ByteArray := ⟨(List.replicate m (0 : UInt8)).toArray⟩
def zerO (m : Nat) : Obj := .cells (madeCells (Value.int .u8 0).cells m) 5
theorem zer_size (m : Nat) : (zerB m).size = m := by
  show (List.replicate m (0 : UInt8)).length = m
  simp
set_option maxRecDepth 100000 in
theorem zer_conv (W : World) (m : Nat) : (convert 63 9 (.slice (some ⟨W.heap.size, 0, none⟩) m m)).run Tryd.prog (W.alloc (zerO m)) = .ok (.string (zerB m)) (W.alloc (zerO m)) := by
  have h := run_convert_bytes_back (P := Tryd.prog) (W.alloc (zerO m)) 63 9 5 ⟨W.heap.size, 0, none⟩ m (List.replicate m 0) Tryd.underlying63 Tryd.underlying5 Tryd.underlying9 (by
    intro j hj
    rw [List.length_replicate] at hj
    have e : (⟨W.heap.size, 0, none⟩ : Addr).add j = ⟨W.heap.size, j, none⟩ := by simp [Addr.add]; omega
    unfold zerO
    rw [e, World.cell?_alloc_mark]
    unfold madeCells
    simp [Value.cells, hj, Nat.mod_one])
  rw [List.length_replicate] at h
  exact h
set_option maxRecDepth 100000 in
theorem zer_make (W : World) (m : Nat) (hm : m ≤ 1000000) : (Instr.makeSlice 63 (.int .i64 (m : Int)) (.int .i64 (m : Int))).run Tryd.prog W = .ok (.slice (some ⟨W.heap.size, 0, none⟩) m m) (W.alloc (zerO m)) := by
  obtain ⟨i0, hi, hz0, hz1, hz2⟩ := info_parts Word.infoB
  have h := run_make (P := Tryd.prog) W 63 5 i0 (.int .u8 0) Tryd.underlying63 hi hz0 .i64 .i64 (m : Int) (m : Int) (by omega) (by omega) (by rw [hz2]; omega) (by omega)
  unfold zerO
  simpa [hz1] using h
section
variable {ops : Array Oper} {rest : List Oper} {o : Oper} {a : Act} {w W0 : World} {Q : Exit → Act → World → Prop} {m : Nat} {v x : Value} {l news : List ByteArray}
theorem wpList_zeros (hgd : o.guard = none) (x y : Operand) (ho : o.op = .makeSlice 63 x y) (hm : m ≤ 1000000) (hx : a.eval x = .int .i64 (m : Int)) (hy : a.eval y = .int .i64 (m : Int))
    (h : wpList Tryd.prog ops Q rest (a.put o.dst (.slice (some ⟨w.heap.size, 0, none⟩) m m)) (w.alloc (zerO m))) : wpList Tryd.prog ops Q (o :: rest) a w :=
  wpList_plain hgd fun _ hK => by
    unfold Oper.wp execOp
    simp only [ho, Sem.run_bind, hx, hy, zer_make w m hm, Result.andThen_ok]
    exact hK _ _ h
theorem wpList_zconv (hgd : o.guard = none) (x : Operand) (ho : o.op = .convert 63 9 x) (hx : a.eval x = .slice (some ⟨w.heap.size, 0, none⟩) m m)
    (h : wpList Tryd.prog ops Q rest (a.put o.dst (.string (zerB m))) (w.alloc (zerO m))) : wpList Tryd.prog ops Q (o :: rest) a (w.alloc (zerO m)) :=
  wpList_plain hgd fun _ hK => by
    unfold Oper.wp execOp
    simp only [ho, Sem.run_bind, hx, zer_conv w m, Result.andThen_ok]
    exact hK _ _ h
theorem wpList_app_w (hw : Region.wanted o (yielded ops a.tmps) = true) (s d : Operand) (ho : o.op = .call { callee := .builtin .append, args := #[s, d], argTypes := #[24, 24] }) (h : Slot.Tx W0 w v l) (hx : Page.Rows w x news) (hnil : Page.NilOk x) (hn : l.length + news.length ≤ 1000000)
    (h1 : a.eval s = v) (h2 : a.eval d = x) (hk : ∀ v' w', Slot.Tx W0 w' v' (l ++ news) → w.grownBy w' v.ownBlock → wpList Tryd.prog ops Q rest (a.put o.dst v') w') : wpList Tryd.prog ops Q (o :: rest) a w :=
  wpList_step fun K hK => by
    rw [if_pos hw]
    exact Page.wp_app_in s d ho h hx hnil hn h1 h2 fun v' w' k1 k2 => hK _ _ (hk v' w' k1 k2)
end

/-! ### two copies of a page, whichever is made first -/
def rgC (P : Pg) (v : Value) (s : Bool) : Array Value := if s then pgC P v else zeroP
structure Rg (V W : World) (P : Pg) (v : Value) (a b : Option (Nat × Bool)) : Prop where
  below : Below V.heap.size V W
  fa : ∀ x s, a = some (x, s) → W.heap[x]? = some (.cells (rgC P v s) 26 (0, 0)) ∧ V.heap.size ≤ x
  fb : ∀ x s, b = some (x, s) → W.heap[x]? = some (.cells (rgC P v s) 26 (0, 0)) ∧ V.heap.size ≤ x
  ne : ∀ x s y t, a = some (x, s) → b = some (y, t) → x ≠ y
section
variable {V W : World} {P : Pg} {v : Value} {a b : Option (Nat × Bool)}
theorem Rg.start : Rg V V.drew P v none none := ⟨(Below.refl _ _).drew, (fun x s e => by cases e), (fun x s e => by cases e), (fun x s y t e => by cases e)⟩
theorem Rg.swap (h : Rg V W P v a b) : Rg V W P v b a := ⟨h.below, h.fb, h.fa, fun x s y t e1 e2 e => h.ne y t x s e2 e1 e.symm⟩
theorem Rg.make (h : Rg V W P v none b) : Rg V (W.alloc (.cells zeroP 26)) P v (some (W.heap.size, false)) b := by
  have k := below_new W (.cells zeroP 26)
  refine ⟨h.below.alloc h.below.size _, fun x s e => ?_, fun x s e => ⟨old_blk k (h.fb x s e).1, (h.fb x s e).2⟩, fun x s y t e1 e2 e => ?_⟩
  · simp only [Option.some.injEq, Prod.mk.injEq] at e
    obtain ⟨rfl, rfl⟩ := e
    exact ⟨heap_alloc_new W _, h.below.size⟩
  · simp only [Option.some.injEq, Prod.mk.injEq] at e1
    obtain ⟨rfl, rfl⟩ := e1
    have := (Array.getElem?_eq_some_iff.1 (h.fb y t e2).1).1
    omega
theorem Rg.put {x : Nat} (h : Rg V W P v (some (x, false)) b) : Rg V (W.setRow x (pgC P v)) P v (some (x, true)) b := by
  obtain ⟨hx, hv⟩ := h.fa x false rfl
  refine ⟨below_setRow h.below hv _, fun y s e => ?_, fun y s e => ⟨(setRow_other W x y _ (h.ne x false y s rfl e).symm).trans (h.fb y s e).1, (h.fb y s e).2⟩, fun y s z t e1 e2 => ?_⟩
  · simp only [Option.some.injEq, Prod.mk.injEq] at e
    obtain ⟨rfl, rfl⟩ := e
    exact ⟨setRow_heap _ _ _ _ _ _ hx, hv⟩
  · simp only [Option.some.injEq, Prod.mk.injEq] at e1
    obtain ⟨rfl, rfl⟩ := e1
    exact h.ne x false z t rfl e2
end
set_option maxRecDepth 100000 in
theorem alloc_page (W : World) : (Instr.alloc 26 true (.tuple #[])).run Tryd.prog W = .ok (.pointer (some ⟨W.heap.size, 0, none⟩)) (W.alloc (.cells zeroP 26)) := by
  kernel_rfl
section
variable {ops : Array Oper} {o : Oper} {act : Act} {Q : Exit → Act → World → Prop} {K : Act → World → Prop} {E : Prop} {V W : World} {P : Pg} {v : Value} {a b : Option (Nat × Bool)}
theorem want_if (hgd : o.guard = none) (h : Oper.wp Tryd.prog o act W K Q) : if Region.wanted o (yielded ops act.tmps) = true then Oper.wp Tryd.prog o act W K Q else E := by
  have hw : Region.wanted o (yielded ops act.tmps) = true := by simp [Region.wanted, hgd]
  rw [if_pos hw]
  exact h
theorem step_A (t : Option Tmp) (hdst : o.dst = t) (hgd : o.guard = none) (ho : o.op = .alloc 26) (c : Rg V W P v none b) (h : ∀ x W', Rg V W' P v (some (x, false)) b → K (act.put t (.pointer (some ⟨x, 0, none⟩))) W') : if Region.wanted o (yielded ops act.tmps) = true then Oper.wp Tryd.prog o act W K Q else E := by
  subst hdst
  refine want_if hgd ?_
  unfold Oper.wp execOp
  simp only [ho, Sem.run_bind, alloc_page, Result.andThen_ok]
  exact h _ _ c.make
theorem step_B (t : Option Tmp) (hdst : o.dst = t) (hgd : o.guard = none) (ho : o.op = .alloc 26) (c : Rg V W P v a none) (h : ∀ x W', Rg V W' P v a (some (x, false)) → K (act.put t (.pointer (some ⟨x, 0, none⟩))) W') : if Region.wanted o (yielded ops act.tmps) = true then Oper.wp Tryd.prog o act W K Q else E :=
  step_A t hdst hgd ho c.swap fun x W' k => h x W' k.swap
theorem step_S (t : Option Tmp) (hdst : o.dst = t) (hgd : o.guard = none) (p q : Operand) (ho : o.op = .store 26 p q) {x : Nat} (hp : act.eval p = .pointer (some ⟨x, 0, none⟩)) (hq : act.eval q = .agg (pgC P v)) (h1 : (pgC P v).all (·.oneCell') = true) (c : Rg V W P v (some (x, false)) b) (h : ∀ W', Rg V W' P v (some (x, true)) b → K (act.put t undef) W') : if Region.wanted o (yielded ops act.tmps) = true then Oper.wp Tryd.prog o act W K Q else E := by
  subst hdst
  refine want_if hgd ?_
  exact wp_store_row 26 p q ho x (pgC P v) hp hq 26 zeroP (c.fa x false rfl).1 info_page rfl h1 (h _ c.put)
theorem step_T (t : Option Tmp) (hdst : o.dst = t) (hgd : o.guard = none) (p q : Operand) (ho : o.op = .store 26 p q) {x : Nat} (hp : act.eval p = .pointer (some ⟨x, 0, none⟩)) (hq : act.eval q = .agg (pgC P v)) (h1 : (pgC P v).all (·.oneCell') = true) (c : Rg V W P v a (some (x, false))) (h : ∀ W', Rg V W' P v a (some (x, true)) → K (act.put t undef) W') : if Region.wanted o (yielded ops act.tmps) = true then Oper.wp Tryd.prog o act W K Q else E :=
  step_S t hdst hgd p q ho hp hq h1 c.swap fun W' k => h W' k.swap
end

/-! ### boxes that are written -/
section
variable {V W : World} {g i : Nat} {P : Pg} {v u : Value} {L : List ByteArray}
theorem Pb.put (h : Pb V W g P v) (hg : V.heap.size ≤ g) (r : Page.Rows V u L) : Pb V (W.setCell ⟨g, 5, none⟩ u) g { P with rows := L } u := by
  have b := h.below.setCell (p := ⟨g, 5, none⟩) hg u
  refine ⟨?_, r.later b, b⟩
  rw [heap_setCell_same _ _ _ _ _ _ h.box]
  rfl
theorem Pb.aim (h : Pb V W g P v) (hg : V.heap.size ≤ g) (r : Page.Rows V v P.rows) (k : Nat) : Pb V (W.setCell ⟨g, 4, none⟩ (.int .u32 (k : Int))) g { P with next := k } v := by
  have b := h.below.setCell (p := ⟨g, 4, none⟩) hg (.int .u32 (k : Int))
  refine ⟨?_, r.later b, b⟩
  rw [heap_setCell_same _ _ _ _ _ _ h.box]
  rfl
theorem Pb.aside (h : Pb V W g P v) (r : Page.Rows V v P.rows) (hne : g ≠ i) (hi : V.heap.size ≤ i) (k : Nat) (x : Value) : Pb V (W.setCell ⟨i, k, none⟩ x) g P v := by
  have b := h.below.setCell (p := ⟨i, k, none⟩) hi x
  exact ⟨(heap_setCell_other _ _ _ _ hne).trans h.box, r.later b, b⟩
theorem six77 (h : Pb V W g ⟨1, 0, 5, 0, 77, L⟩ v) : W.cell? ⟨g, 0, none⟩ = some (.int .u8 1) ∧ W.cell? ⟨g, 1, none⟩ = some (.int .u8 0) ∧ W.cell? ⟨g, 2, none⟩ = some (.int .u32 5) ∧ W.cell? ⟨g, 3, none⟩ = some (.int .u64 0) ∧ W.cell? ⟨g, 4, none⟩ = some (.int .u32 77) ∧ W.cell? ⟨g, 5, none⟩ = some v := h.six
theorem six9 (h : Pb V W g ⟨1, 0, 5, 0, 9, L⟩ v) : W.cell? ⟨g, 0, none⟩ = some (.int .u8 1) ∧ W.cell? ⟨g, 1, none⟩ = some (.int .u8 0) ∧ W.cell? ⟨g, 2, none⟩ = some (.int .u32 5) ∧ W.cell? ⟨g, 3, none⟩ = some (.int .u64 0) ∧ W.cell? ⟨g, 4, none⟩ = some (.int .u32 9) ∧ W.cell? ⟨g, 5, none⟩ = some v := h.six
theorem leaf_form (h : P.kind = 1 ∧ P.level = 0 ∧ P.id = 5 ∧ P.lsn = 0 ∧ P.next = 9) (L : List ByteArray) : ({ P with rows := L } : Pg) = ⟨1, 0, 5, 0, 9, L⟩ ∧ ({ ({ P with rows := L } : Pg) with next := 77 } : Pg) = ⟨1, 0, 5, 0, 77, L⟩ := by
  obtain ⟨k, l, i, s, n, r⟩ := P
  simp only at h
  obtain ⟨rfl, rfl, rfl, rfl, rfl⟩ := h
  exact ⟨rfl, rfl⟩
end

set_option maxRecDepth 100000 in
set_option maxHeartbeats 8000000 in
theorem parts_walk {w : World} {v : Value} {l : List Rw} {key : ByteArray} (h : IsRws w v l) (hl : l.length ≤ 140737488351232) (hk : key.size ≤ 140737488351232) {sz : Int} (hsz : 0 ≤ sz ∧ sz ≤ 255) :
    Calls Tryd.prog 6 #[v, .string key, .int .u8 sz] w fun e w' => e = .returned (.bool true) ∧ Below w.heap.size w w' := by
  have H := Lib.hid h
  obtain ⟨ad, c, rfl, _⟩ := id h
  obtain ⟨n, hn⟩ : ∃ n, n = l.length := ⟨_, rfl⟩
  have N := Lib.hid hn
  rw [← hn] at H hl ⊢
  have hwf : ∀ j (hj : j < l.length), l[j].wf := fun j hj => by
    obtain ⟨_, _, _, _, t⟩ := h.at hj
    exact t.wf
  clear hn h
  obtain ⟨z, rfl⟩ : ∃ z : Nat, sz = (z : Int) := ⟨sz.toNat, by omega⟩
  have hz : z ≤ 255 := by omega
  clear hsz
  by_cases hbig : 30 < n
  · go_enter Tryd.func6, Tryd.ntmps6
    go_wp2_with fail
    refine (alive_any _).mono ?_
    rintro e w2 ⟨rfl, b2⟩
    have B2 := Lib.hid b2
    clear b2
    go_wp2_with fail
    go_ret
    exact ⟨rfl, B2.out⟩
  obtain ⟨m, hm⟩ : ∃ m, m = z % 97 := ⟨_, rfl⟩
  have hmod : Int.tmod (z : Int) 97 = (m : Int) := by
    rw [hm]
    rfl
  have HMOD := Lib.hid hmod
  have HM := Lib.hid (show m ≤ 1000000 by omega)
  obtain ⟨r, hrk, hrv, hrw⟩ : ∃ r : Rw, r.key = key ∧ rwV r = .agg #[.string key, .bool false, .int .u64 0, .int .u32 0, .int .u16 0, .string (zerB m), .int .i64 0] ∧ r.wf :=
    ⟨⟨key, false, 0, 0, 0, zerB m, 0⟩, rfl, rfl, ⟨by show 0 < 18446744073709551616; omega, by show 0 < 4294967296; omega, by show 0 < 65536; omega, by show (-9223372036854775808 : Int) ≤ 0 ∧ (0 : Int) ≤ 9223372036854775807; omega, hk, by show (zerB m).size ≤ _; rw [zer_size]; omega⟩⟩
  have KE := Lib.hid (fun W => (show Calls Tryd.prog 32 #[.agg #[.string key, .bool false, .int .u64 0, .int .u32 0, .int .u16 0, .string (zerB m), .int .i64 0]] W fun e w' => e = .returned (.tuple #[.string (encS r), .int .i64 (if mayR r then 0 else 2)]) ∧ Below W.heap.size W w' by
    have := Row.rencode_any r W hrw
    rw [hrv] at this
    exact this))
  clear hrv hm hmod
  subst hrk
  have KL := Lib.hid (own_post (leaf_any l H.out (by rw [← N.out]; omega)))
  have KH := Lib.hid (fun (W : World) (u : Value) (t : Page.Rows W u (leafP l).rows) => Page.heavy_any (leafP l) t (show (l.map encS).length ≤ _ by rw [List.length_map, ← N.out]; omega) (fun j hj => by have := leaf_small l hj; omega))
  have LU := Lib.hid (fun h => light_used (l := (leafP l).rows) h)
  have KC := Lib.hid (fun (hu : used (leafP l).rows ≤ 20000) (W : World) (u : Value) (t : Page.Rows W u (leafP l).rows) => check_any (leafP l) t (by show 1 < 256; omega) (by omega))
  have KF := Lib.hid (fun (hu : used (leafP l).rows ≤ 20000) (W : World) (u : Value) (t : Page.Rows W u (leafP l).rows) => find_any (leafP l) r.key t (by show 1 < 256; omega) (by omega))
  have CN := Lib.hid (fun h => check_node (p := leafP l) h)
  have ES := enc_small r
  have KS := Lib.hid (fun (hu : used (leafP l).rows ≤ 20000) (W : World) (u : Value) (t : Page.Rows W u (leafP l).rows) (c : CapOk u) => spl_post (split_any (leafP l) (findI (leafP l) r.key : Int) (encS r) (findB (leafP l) r.key) t c (by show 1 < 256; omega) (by omega) (by omega)))
  have KW := Lib.hid (fun (hu : used (leafP l).rows ≤ 20000) (W : World) (u : Value) (t : Page.Rows W u (leafP l).rows) (c : CapOk u) => pg_post (with_any (leafP l) (findI (leafP l) r.key : Int) (encS r) (findB (leafP l) r.key) t c (by show 1 < 256; omega) (by omega) (by omega)))
  have PO := Lib.hid (fun (hn : nodeB (leafP l) = true) => place_ok hwf hn (r := r))
  have AU := Lib.hid (fun (hn : nodeB (leafP l) = true) => all_used hwf hn (r := r))
  have PF := Lib.hid (fun (hn : nodeB (leafP l) = true) (hm : mayR r = true) => parts_few hwf hn hrw hm)
  have PP := Lib.hid (fun (hn : nodeB (leafP l) = true) (hm : mayR r = true) => parts_facts hwf hn hrw hm)
  have PL := Lib.hid (show allL l r = putL (leafP l).rows (findI (leafP l) r.key) (encS r) (findB (leafP l) r.key) from rfl)
  have PE := Lib.hid (show (leafP l).kind = 1 ∧ (leafP l).level = 0 ∧ (leafP l).id = 5 ∧ (leafP l).lsn = 0 ∧ (leafP l).next = 9 from ⟨rfl, rfl, rfl, rfl, rfl⟩)
  clear hwf hrw
  generalize allL l r = ALL at *
  generalize splE (leafP l) (findI (leafP l) r.key : Int) (encS r) (findB (leafP l) r.key) = sE at *
  generalize splA (leafP l) (findI (leafP l) r.key : Int) (encS r) (findB (leafP l) r.key) = sA at *
  generalize splB (leafP l) (findI (leafP l) r.key : Int) (encS r) (findB (leafP l) r.key) = sB at *
  generalize splS (leafP l) (findI (leafP l) r.key : Int) (encS r) (findB (leafP l) r.key) = sS at *
  generalize withE (leafP l) (findI (leafP l) r.key : Int) (encS r) (findB (leafP l) r.key) = wE at *
  generalize withR (leafP l) (findI (leafP l) r.key : Int) (encS r) (findB (leafP l) r.key) = wR at *
  generalize findI (leafP l) r.key = f at *
  generalize findB (leafP l) r.key = b at *
  generalize leafP l = P at *
  generalize encS r = T at *
  generalize mayR r = mr at *
  generalize r.key = key at *
  go_enter Tryd.func6, Tryd.ntmps6
  go_wp2_with fail
  refine KL.out.mono ?_
  rintro e w1 ⟨adu, capu, rfl, b1, r1, k1⟩
  have T1 := Lib.hid (Pb.make b1 r1)
  obtain ⟨q, hq⟩ : ∃ q, q = P.rows.length := ⟨_, rfl⟩
  have NQ := Lib.hid hq
  rw [← hq] at T1 k1 ⊢
  have CU := Lib.hid k1
  clear hq b1 r1 k1 KL
  unfold pgV
  go_upto_region 4 with fail
  unfold pgC at T1
  generalize w1.alloc _ = W1 at *
  generalize w1.heap.size = g at *
  obtain ⟨a0, a1, a2, a3, a4, a5⟩ := T1.out.six
  unfold pgV at KH KC KF KS KW
  go_wp2_with fail
  refine (KH.out _ _ T1.out.rows).mono ?_
  rintro e w2 ⟨rfl, b2⟩
  have T2 := Lib.hid (T1.out.later b2)
  clear b2 T1 KH a0 a1 a2 a3 a4 a5
  generalize heavyB P.rows = hb at *
  cases hb with
  | true =>
    clear KC KF LU CN KE KS KW PO AU PF PP PL
    go_wp2_with fail
    refine (alive_any _).mono ?_
    rintro e w3 ⟨rfl, b3⟩
    have B2 := Lib.hid (T2.out.later b3).below
    clear b3 T2
    go_wp2_with fail
    go_ret
    exact ⟨rfl, B2.out⟩
  | false =>
  have hu := LU.out rfl
  obtain ⟨a0, a1, a2, a3, a4, a5⟩ := T2.out.six
  go_wp2_with fail
  refine (KC.out hu _ _ T2.out.rows).mono ?_
  rintro e w3 ⟨rfl, b3⟩
  have T3 := Lib.hid (T2.out.later b3)
  clear b3 T2 KC a0 a1 a2 a3 a4 a5
  cases hck : (checkI P != 0) with
  | true =>
    clear KF LU CN KE KS KW PO AU PF PP PL
    go_wp2_with fail
    refine (alive_any _).mono ?_
    rintro e w4 ⟨rfl, b4⟩
    have B2 := Lib.hid (T3.out.later b4).below
    clear b4 T3
    go_wp2_with fail
    go_ret
    exact ⟨rfl, B2.out⟩
  | false =>
  have hnode := CN.out hck
  have QF := Lib.hid (KF.out hu)
  have QS := Lib.hid (KS.out hu)
  have QW := Lib.hid (KW.out hu)
  have QO := Lib.hid (PO.out hnode)
  have QA := Lib.hid (AU.out hnode)
  have QN := Lib.hid (PF.out hnode)
  have QP := Lib.hid (PP.out hnode)
  have UL := Lib.hid hu
  clear KF KS KW PO AU PF PP LU CN hnode hu
  obtain ⟨a0, a1, a2, a3, a4, a5⟩ := T3.out.six
  go_wp2_with fail
  refine (QF.out _ _ T3.out.rows).mono ?_
  rintro e w4 ⟨rfl, b4⟩
  have T4 := Lib.hid (T3.out.later b4)
  clear b4 T3 QF a0 a1 a2 a3 a4 a5 hck
  have hmod := HMOD.out
  go_wp2_with (first | (refine wpList_zeros (m := m) rfl _ _ rfl HM.out rfl rfl ?_) | (refine wpList_zconv (m := m) rfl _ rfl rfl ?_))
  clear hmod
  refine (KE.out _).mono ?_
  rintro e w5 ⟨rfl, b5⟩
  have T5 := Lib.hid ((T4.out.later (below_new _ _)).later b5)
  clear b5 T4 KE
  cases mr with
  | false =>
    clear QS QW QO QA QN QP PL
    go_wp2_with fail
    refine (alive_any _).mono ?_
    rintro e w6 ⟨rfl, b6⟩
    have B2 := Lib.hid (T5.out.later b6).below
    clear b6 T5
    go_wp2_with fail
    go_ret
    exact ⟨rfl, B2.out⟩
  | true =>
  have hfq : f ≤ q := by have := QO.out.1; rw [NQ.out]; exact this
  have hfb : b = true → f < q := fun hb => by have := QO.out.2 hb; rw [NQ.out]; exact this
  have hq2 : q ≤ 5000 := by
    have h1 := Page.used_len P.rows
    have h2 := UL.out
    rw [NQ.out]
    omega
  clear QO
  have B5 := Lib.hid T5.out.below
  have V5 := Lib.hid (show Pb w5 w5 g P (.slice adu q capu) from ⟨T5.out.box, T5.out.rows, Below.refl _ _⟩)
  have OLD := Lib.hid (old_of T5.out.rows)
  obtain ⟨x1, s1, r1, c1⟩ := rows_head T5.out.rows CU.out (k := f) (by rw [← NQ.out]; exact hfq)
  obtain ⟨x2, s2, r2, c2⟩ := rows_tail T5.out.rows CU.out (k := if b then f + 1 else f) (by
    rw [← NQ.out]
    cases b with
    | false => exact hfq
    | true => exact hfb rfl)
  have R1 := Lib.hid r1
  have R2 := Lib.hid r2
  have N1 := Lib.hid c1.nilOk
  have N2 := Lib.hid c2.nilOk
  have hn2 : P.rows.length ≤ 5000 := by rw [← NQ.out]; exact hq2
  have L1 := Lib.hid (show ([] : List ByteArray).length + (P.rows.take f).length ≤ 1000000 by simp; omega)
  have L2 := Lib.hid (show ∀ j, ((P.rows.take f ++ [T]) : List ByteArray).length + (P.rows.drop j).length ≤ 1000000 from fun j => by simp; omega)
  have L3 := Lib.hid (show (P.rows.take f).length ≤ 900000 by simp; omega)
  clear r1 r2 c1 c2 T5 hn2
  obtain ⟨A, hA⟩ : ∃ A, A = P.rows.take f := ⟨_, rfl⟩
  have PL2 := Lib.hid (show putL P.rows f T b = A ++ [T] ++ P.rows.drop (if b then f + 1 else f) by rw [hA]; rfl)
  have LA := Lib.hid (show A.length = f by rw [hA, List.length_take, ← NQ.out]; omega)
  have LA2 := Lib.hid (show (A ++ [T]).length = f + 1 by rw [List.length_append, LA.out]; rfl)
  rw [← hA] at R1 L1 L2 L3
  clear hA
  have T6 := Lib.hid (V5.out.later (below_new _ (.cells #[] 9)))
  have E0 := Lib.hid (Slot.Tx.made w5 (w := w5) [] (Nat.le_refl _) (by simp))
  have X1 := Lib.hid (R1.out.later T6.out.below)
  obtain ⟨a0, a1, a2, a3, a4, a5⟩ := T6.out.six
  clear V5 R1
  go_upto_if 71 with (first | (refine Page.wpList_app_in (W0 := w5) (l := []) (news := A) rfl _ _ rfl E0.out X1.out N1.out L1.out rfl rfl ?_; intro v3 w6 t3 g3; replace t3 : Slot.Tx w5 w6 v3 A := t3; obtain ⟨ad3, cap3, rfl⟩ := t3.shape; have T7 := Lib.hid (T6.out.grown E0.out g3 OLD.out); rw [LA.out] at t3 ⊢; obtain ⟨p1, p2, p3, p4⟩ := app_one (S := T) t3 T7.out.below L3.out; have P1 := Lib.hid p1; have P2 := Lib.hid p2; have P3 := Lib.hid p3; have T8 := Lib.hid (T7.out.later (below_new _ (.cells #[.string T] 9))); clear p1 p2 p3 p4 t3 g3 T7 a0 a1 a2 a3 a4 a5 T6 E0 X1) | (refine Slot.wpList_app (W0 := w5) (news := [T]) rfl _ _ rfl P1.out P2.out P3.out rfl rfl ?_; intro v5 w7 t5 g5; obtain ⟨ad5, cap5, rfl⟩ := t5.shape; have T9 := Lib.hid (T8.out.grown P1.out g5 OLD.out); rw [LA2.out] at t5 ⊢; have X5 := Lib.hid t5; clear t5 g5 P1 P2 P3 T8))
  have X2 := Lib.hid (R2.out.later T9.out.below)
  clear R2 s1
  go_cut [12] (fun s wx => Slot.Tx w5 wx s (putL P.rows f T b) ∧ Pb w5 wx g P (.slice adu q capu))
  case first =>
    obtain ⟨a0, a1, a2, a3, a4, a5⟩ := T9.out.six
    clear QS QW QA QN QP PL
    cases b with
    | false =>
      simp only [Bool.false_eq_true, if_false] at s2 X2 PL2
      clear hfb
      go_wp2_with (first | (refine Page.wpList_app_in (W0 := w5) (l := A ++ [T]) (news := P.rows.drop f) rfl _ _ rfl X5.out X2.out N2.out (L2.out _) rfl rfl ?_; intro v6 w8 t6 g6; have X6 := Lib.hid t6; have T10 := Lib.hid (T9.out.grown X5.out g6 OLD.out); clear t6 g6 a0 a1 a2 a3 a4 a5))
      go_meet
      exact ⟨by rw [PL2.out]; exact X6.out, T10.out⟩
    | true =>
      have hlt := hfb rfl
      simp only [if_true] at s2 X2 PL2
      have e1 : ((f + 1 : Nat) : Int) = (f : Int) + 1 := by omega
      rw [e1] at s2
      clear hfb e1
      go_wp2_with (first | (refine Page.wpList_app_in (W0 := w5) (l := A ++ [T]) (news := P.rows.drop (f + 1)) rfl _ _ rfl X5.out X2.out N2.out (L2.out _) rfl rfl ?_; intro v6 w8 t6 g6; have X6 := Lib.hid t6; have T10 := Lib.hid (T9.out.grown X5.out g6 OLD.out); clear t6 g6 a0 a1 a2 a3 a4 a5))
      go_meet
      exact ⟨by rw [PL2.out]; exact X6.out, T10.out⟩
  case rest =>
  obtain ⟨t7, t10⟩ := hcut
  rw [← PL.out] at t7
  have T10 := Lib.hid t10
  clear T9 X5 X2 s2 PL PL2 LA LA2 L1 L2 L3 N1 N2 OLD t10 hfb
  obtain ⟨ad7, cap7, rfl⟩ := t7.shape
  obtain ⟨qa, hqa⟩ : ∃ x, x = ALL.length := ⟨_, rfl⟩
  have QL := Lib.hid hqa
  rw [← hqa] at t7 ⊢
  have X7 := Lib.hid t7
  clear hqa t7
  obtain ⟨a0, a1, a2, a3, a4, a5⟩ := T10.out.six
  go_wp2_with fail
  refine (QS.out _ _ T10.out.rows CU.out).mono ?_
  rintro e w8 ⟨ea, ca, eb, cb, rfl, b8, ra, rb, oa, ob⟩
  have T11 := Lib.hid (T10.out.later b8)
  have X8 := Lib.hid (Page.rows_tx (X7.out.later b8))
  clear b8 T10 X7 QS a0 a1 a2 a3 a4 a5
  by_cases hfew : qa < 2
  · obtain rfl : sE = 2 := QN.out trivial (by rw [← QL.out]; exact hfew)
    clear QN QP QA QW ra rb oa ob X8
    generalize sA.length = na at *
    generalize sB.length = nb at *
    go_wp2_with fail
    refine (alive_any _).mono ?_
    rintro e w9 ⟨rfl, b9⟩
    have B9 := Lib.hid (B5.out.trans ((T11.out.later b9).below.mono B5.out.size))
    clear b9 T11
    go_wp2_with fail
    go_ret
    exact ⟨rfl, B9.out⟩
  obtain ⟨A', B', s', sa, sb, e0, eA, eB, eS, la, lb, eAB, lA, lB, uA, uB, zs, za, zb, mA, mB, kA, kAe, kB, kBe, c1, c2, hmE, hmR⟩ := QP.out trivial (by rw [← QL.out]; omega)
  subst e0
  subst eA
  subst eB
  subst eS
  have hq200 : qa ≤ 400 := by rw [QL.out, ← eAB, List.length_append]; omega
  clear QN QP
  have RA := Lib.hid ra
  have RB := Lib.hid rb
  have OA := Lib.hid oa
  have OB := Lib.hid ob
  have EAB := Lib.hid eAB
  have UAB := Lib.hid (And.intro uA uB)
  have ZZ := Lib.hid (And.intro zs (And.intro za zb))
  have MA := Lib.hid mA
  have MB := Lib.hid mB
  have KAB := Lib.hid (And.intro kA (And.intro kAe (And.intro kB kBe)))
  have CC := Lib.hid (And.intro c1 c2)
  have ME := Lib.hid hmE
  have MR := Lib.hid hmR
  have LAB := Lib.hid (And.intro lA lB)
  have QAU := Lib.hid QA.out.1
  clear ra rb oa ob eAB uA uB zs za zb mA mB kA kAe kB kBe c1 c2 hmE hmR lA lB QA
  have LQ := Lib.hid (show ALL.length = qa from QL.out.symm)
  have L1 := Lib.hid (show ([] : List ByteArray).length + sA.length ≤ 1000000 by simp; have := LAB.out; omega)
  have L2 := Lib.hid (show sA.length + sB.length ≤ 1000000 by have := LAB.out; omega)
  obtain ⟨na, hna⟩ : ∃ x, x = sA.length := ⟨_, rfl⟩
  obtain ⟨nb, hnb⟩ : ∃ x, x = sB.length := ⟨_, rfl⟩
  have NA := Lib.hid hna
  have NB := Lib.hid hnb
  rw [← hna] at la RA OA KAB ⊢
  rw [← hnb] at lb RB OB ⊢
  have hna2 : na ≤ 200 := by rw [NA.out]; exact LAB.out.1
  have hnb2 : nb ≤ 200 := by rw [NB.out]; exact LAB.out.2
  clear hna hnb
  have KT := Lib.hid (fun (W : World) (v1 v2 : Value) (h1 : Page.Rows W v1 ALL) (h2 : Page.Rows W v2 ALL) => (show Calls Tryd.prog 26 #[v1, v2] W fun e w' => e = .returned (.bool true) ∧ Below W.heap.size W w' by
    have hl : ALL.length ≤ 1000000 := by rw [LQ.out]; omega
    have := rtexts_any _ _ h1 h2 hl hl
    rw [decide_eq_true rfl] at this
    exact this))
  have B0 := Lib.hid (below_new w8 (.cells #[] 9))
  have E1 := Lib.hid (Slot.Tx.made w8 (w := w8) [] (Nat.le_refl _) (by simp))
  have RA1 := Lib.hid (RA.out.later B0.out)
  have d1 : decide ((na : Int) < 1) = false := decide_eq_false (by omega)
  have d2 : decide ((nb : Int) < 1) = false := decide_eq_false (by omega)
  go_wp2_with (first | (refine wpList_app_w (W0 := w8) (l := []) (news := sA) (by kernel_rfl) _ _ rfl E1.out RA1.out OA.out.nilOk L1.out rfl rfl ?_; intro v3 w9 t3 g3; replace t3 : Slot.Tx w8 w9 v3 sA := t3; have B1 := Lib.hid (B0.out.grown g3 B0.out.size (fun x hx => (E1.out.own.lt x hx).1)); obtain ⟨ad3, cap3, rfl⟩ := t3.shape; rw [← NA.out] at t3 ⊢; have X9 := Lib.hid t3; have RB1 := Lib.hid (RB.out.later B1.out); clear t3 g3 E1 RA1 B0) | (refine wpList_app_w (W0 := w8) (l := sA) (news := sB) (by kernel_rfl) _ _ rfl X9.out RB1.out OB.out.nilOk L2.out rfl rfl ?_; intro v4 w10 t4 g4; rw [EAB.out] at t4; have B2 := Lib.hid (B1.out.grown g4 B1.out.size (fun x hx => (X9.out.own.lt x hx).1)); obtain ⟨ad4, cap4, rfl⟩ := t4.shape; rw [LQ.out] at t4 ⊢; have X10 := Lib.hid t4; clear t4 g4 X9 RB1 B1))

  refine (KT.out _ _ _ (Page.rows_tx X10.out) (X8.out.later B2.out)).mono ?_
  rintro e w11 ⟨rfl, b11⟩
  have B3 := Lib.hid (B2.out.trans (b11.mono B2.out.size))
  clear b11 B2 X10 X8 KT
  go_upto_region 20 with fail
  have V11 := Lib.hid (show Pb w8 w11 g P (.slice adu q capu) from (show Pb w8 w8 g P (.slice adu q capu) from ⟨T11.out.box, T11.out.rows, Below.refl _ _⟩).later B3.out)
  have BB := Lib.hid (B5.out.trans (T11.out.below.mono B5.out.size))
  have R0 := Lib.hid T11.out.rows
  have GL := Lib.hid (show g < w8.heap.size from (Array.getElem?_eq_some_iff.1 T11.out.box).1)
  clear T11 B3 B5 d1 d2
  go_cut [17, 18] (fun x y wx => ∃ g1 g2, x = .pointer (some ⟨g1, 0, none⟩) ∧ y = .pointer (some ⟨g2, 0, none⟩) ∧ g1 ≠ g2 ∧ w8.heap.size ≤ g1 ∧ w8.heap.size ≤ g2 ∧ Pb w8 wx g P (.slice adu q capu) ∧ Pb w8 wx g1 P (.slice adu q capu) ∧ Pb w8 wx g2 P (.slice adu q capu))
  case first =>
    obtain ⟨a0, a1, a2, a3, a4, a5⟩ := V11.out.six
    clear QW RA RB OA OB EAB UAB ZZ MA MB KAB CC ME MR LAB QAU LQ L1 L2 UL
    have SC := Lib.hid (fun W (b : Below w11.heap.size w11 W) => (V11.out.later b).six)
    have ONE := Lib.hid (pg_one P adu q capu)
    have FIN := Lib.hid (fun (W : World) (x y : Nat) (k : Rg w11 W P (.slice adu q capu) (some (x, true)) (some (y, true))) => (show ∃ g1 g2, (.pointer (some ⟨x, 0, none⟩) : Value) = .pointer (some ⟨g1, 0, none⟩) ∧ (.pointer (some ⟨y, 0, none⟩) : Value) = .pointer (some ⟨g2, 0, none⟩) ∧ g1 ≠ g2 ∧ w8.heap.size ≤ g1 ∧ w8.heap.size ≤ g2 ∧ Pb w8 W g P (.slice adu q capu) ∧ Pb w8 W g1 P (.slice adu q capu) ∧ Pb w8 W g2 P (.slice adu q capu) from
      have m := V11.out.later k.below
      ⟨x, y, rfl, rfl, k.ne _ _ _ _ rfl rfl, Nat.le_trans V11.out.below.size (k.fa _ _ rfl).2, Nat.le_trans V11.out.below.size (k.fb _ _ rfl).2, m, ⟨(k.fa _ _ rfl).1, m.rows, m.below⟩, ⟨(k.fb _ _ rfl).1, m.rows, m.below⟩⟩))
    have c00 : Rg w11 w11.drew P (.slice adu q capu) none none := Rg.start
    clear a0 a1 a2 a3 a4 a5
    refine wp_region_noPanic ?_
    refine wp_region_held_drew (S := fun w' => w'.cell? ⟨g, 0, none⟩ = some (.int .u8 (P.kind : Int)) ∧ w'.cell? ⟨g, 1, none⟩ = some (.int .u8 (P.level : Int)) ∧ w'.cell? ⟨g, 2, none⟩ = some (.int .u32 (P.id : Int)) ∧ w'.cell? ⟨g, 3, none⟩ = some (.int .u64 (P.lsn : Int)) ∧ w'.cell? ⟨g, 4, none⟩ = some (.int .u32 (P.next : Int)) ∧ w'.cell? ⟨g, 5, none⟩ = some (.slice adu q capu)) (by kernel_rfl) (SC.out _ c00.below) (fun hHeld => ?_)
    refine wpAnyH_take (i := 0) (v := .agg (pgC P (.slice adu q capu))) rfl (by kernel_rfl) (by kernel_rfl) (by kernel_rfl) (fun _ _ _ h => h) (Or.inl ⟨by rfl, by intro w hw; obtain ⟨h0, h1, h2, h3, h4, h5⟩ := hw; unfold pgC; go_simp⟩) hHeld ?_
    refine wpAnyH_take (i := 1) (v := .agg (pgC P (.slice adu q capu))) rfl (by kernel_rfl) (by kernel_rfl) (by kernel_rfl) (fun _ _ _ h => h) (Or.inl ⟨by rfl, by intro w hw; obtain ⟨h0, h1, h2, h3, h4, h5⟩ := hw; unfold pgC; go_simp⟩) hHeld ?_
    clear hHeld
    simp only [List.getElem_toArray, List.getElem_cons_succ, List.getElem_cons_zero, Act.put, List.setIfInBounds_toArray, List.set_cons_zero, List.set_cons_succ]
    refine wpAnyH_ready (rs := [2, 3]) (by kernel_rfl) (by simp) (AllReadyH.cons rfl (fun K hK => ?_) (AllReadyH.cons rfl (fun K hK => ?_) AllReadyH.nil))
    · refine step_A (V := w11) (some 17) (by rfl) (by rfl) (by rfl) c00 ?_; intro xA W10 c10; refine hK.out _ _ (SC.out _ c10.below) (fun _ => ?_); clear hK K; simp only [Act.put, List.setIfInBounds_toArray, List.set_cons_zero, List.set_cons_succ]
      refine wpAnyH_ready (rs := [3]) (by kernel_rfl) (by simp) (AllReadyH.cons rfl (fun K hK => ?_) AllReadyH.nil)
      · refine step_B (V := w11) (some 18) (by rfl) (by rfl) (by rfl) c10 ?_; intro xB W11 c11; refine hK.out _ _ (SC.out _ c11.below) (fun _ => ?_); clear hK K; simp only [Act.put, List.setIfInBounds_toArray, List.set_cons_zero, List.set_cons_succ]
        refine wpAnyH_ready (rs := [4]) (by kernel_rfl) (by simp) (AllReadyH.cons rfl (fun K hK => ?_) AllReadyH.nil)
        · refine step_S (V := w11) (P := P) (v := .slice adu q capu) none (by rfl) (by rfl) _ _ (by rfl) (by rfl) (by rfl) ONE.out c11 ?_; intro W21 c21; refine hK.out _ _ (SC.out _ c21.below) (fun _ => ?_); clear hK K; simp only [Act.put]
          refine wpAnyH_ready (rs := [5]) (by kernel_rfl) (by simp) (AllReadyH.cons rfl (fun K hK => ?_) AllReadyH.nil)
          · refine step_T (V := w11) (P := P) (v := .slice adu q capu) none (by rfl) (by rfl) _ _ (by rfl) (by rfl) (by rfl) ONE.out c21 ?_; intro W22 c22; refine hK.out _ _ (SC.out _ c22.below) (fun _ => ?_); clear hK K; simp only [Act.put]
            refine wpAnyH_done (by kernel_rfl) ?_ _
            refine NoPanic.normal ?_
            go_wp2_with fail
            go_meet
            exact FIN.out _ _ _ c22
    · refine step_B (V := w11) (some 18) (by rfl) (by rfl) (by rfl) c00 ?_; intro xB W01 c01; refine hK.out _ _ (SC.out _ c01.below) (fun _ => ?_); clear hK K; simp only [Act.put, List.setIfInBounds_toArray, List.set_cons_zero, List.set_cons_succ]
      refine wpAnyH_ready (rs := [2]) (by kernel_rfl) (by simp) (AllReadyH.cons rfl (fun K hK => ?_) AllReadyH.nil)
      · refine step_A (V := w11) (some 17) (by rfl) (by rfl) (by rfl) c01 ?_; intro xA W11 c11; refine hK.out _ _ (SC.out _ c11.below) (fun _ => ?_); clear hK K; simp only [Act.put, List.setIfInBounds_toArray, List.set_cons_zero, List.set_cons_succ]
        refine wpAnyH_ready (rs := [4]) (by kernel_rfl) (by simp) (AllReadyH.cons rfl (fun K hK => ?_) AllReadyH.nil)
        · refine step_S (V := w11) (P := P) (v := .slice adu q capu) none (by rfl) (by rfl) _ _ (by rfl) (by rfl) (by rfl) ONE.out c11 ?_; intro W21 c21; refine hK.out _ _ (SC.out _ c21.below) (fun _ => ?_); clear hK K; simp only [Act.put]
          refine wpAnyH_ready (rs := [5]) (by kernel_rfl) (by simp) (AllReadyH.cons rfl (fun K hK => ?_) AllReadyH.nil)
          · refine step_T (V := w11) (P := P) (v := .slice adu q capu) none (by rfl) (by rfl) _ _ (by rfl) (by rfl) (by rfl) ONE.out c21 ?_; intro W22 c22; refine hK.out _ _ (SC.out _ c22.below) (fun _ => ?_); clear hK K; simp only [Act.put]
            refine wpAnyH_done (by kernel_rfl) ?_ _
            refine NoPanic.normal ?_
            go_wp2_with fail
            go_meet
            exact FIN.out _ _ _ c22
  case rest =>
  obtain ⟨g1, g2, rfl, rfl, hne, hg1, hg2, p0, p1, p2⟩ := hcut
  clear V11
  have HNE := Lib.hid hne
  have HG1 := Lib.hid hg1
  have HG2 := Lib.hid hg2
  have P0 := Lib.hid p0
  have P1 := Lib.hid p1
  have P2 := Lib.hid p2
  clear hne hg1 hg2 p0 p1 p2
  have c5 := P1.out.six.2.2.2.2.2
  have fz := frozen_of_row _ _ 5 _ _ P1.out.box
  go_upto_region 22 with fail
  have X1 := Lib.hid (P1.out.put HG1.out RA.out)
  have Y1 := Lib.hid (P2.out.aside R0.out HNE.out.symm HG1.out 5 (.slice ea na ca))
  have Z1 := Lib.hid (P0.out.aside R0.out (show g ≠ g1 by have := GL.out; have := HG1.out; omega) HG1.out 5 (.slice ea na ca))
  clear P0 P1 P2 c5 fz
  generalize wc.setCell _ _ = W1 at *
  have c4 := X1.out.six.2.2.2.2.1
  have fz := frozen_of_row _ _ 4 _ _ X1.out.box
  go_upto_region 23 with fail
  have X2 := Lib.hid (X1.out.aim HG1.out RA.out 77)
  have Y2 := Lib.hid (Y1.out.aside R0.out HNE.out.symm HG1.out 4 (.int .u32 77))
  have Z2 := Lib.hid (Z1.out.aside R0.out (show g ≠ g1 by have := GL.out; have := HG1.out; omega) HG1.out 4 (.int .u32 77))
  rw [(leaf_form PE.out sA).2] at X2
  clear X1 Y1 Z1 c4 fz
  rw [show (((77 : Nat) : Int)) = 77 from rfl] at X2
  generalize W1.setCell _ _ = W2 at *
  have c5 := Y2.out.six.2.2.2.2.2
  have fz := frozen_of_row _ _ 5 _ _ Y2.out.box
  go_upto_region 24 with fail
  have X3 := Lib.hid (X2.out.aside RA.out HNE.out HG2.out 5 (.slice eb nb cb))
  have Y3 := Lib.hid (Y2.out.put HG2.out RB.out)
  have Z3 := Lib.hid (Z2.out.aside R0.out (show g ≠ g2 by have := GL.out; have := HG2.out; omega) HG2.out 5 (.slice eb nb cb))
  rw [(leaf_form PE.out sB).1] at Y3
  clear X2 Y2 Z2 c5 fz
  generalize W2.setCell _ _ = W3 at *
  have KM1 := Lib.hid (fun (W : World) (t : Page.Rows W (.slice ea na ca) sA) => (show Calls Tryd.prog 33 #[.agg #[.int .u8 1, .int .u8 0, .int .u32 5, .int .u64 0, .int .u32 77, .slice ea na ca]] W fun e w' => e = .returned (.bool true) ∧ Below W.heap.size W w' by
    have := Page.may_any ⟨1, 0, 5, 0, 77, sA⟩ t (by show used sA ≤ _; have := UAB.out.1; omega)
    rw [MA.out] at this
    exact this))
  have KM2 := Lib.hid (fun (W : World) (t : Page.Rows W (.slice eb nb cb) sB) => (show Calls Tryd.prog 33 #[.agg #[.int .u8 1, .int .u8 0, .int .u32 5, .int .u64 0, .int .u32 9, .slice eb nb cb]] W fun e w' => e = .returned (.bool true) ∧ Below W.heap.size W w' by
    have := Page.may_any ⟨1, 0, 5, 0, 9, sB⟩ t (by show used sB ≤ _; have := UAB.out.2; omega)
    rw [MB.out] at this
    exact this))
  have KK1 := Lib.hid (fun (W : World) (t : Page.Rows W (.slice ea na ca) sA) => (show Calls Tryd.prog 10 #[.agg #[.int .u8 1, .int .u8 0, .int .u32 5, .int .u64 0, .int .u32 77, .slice ea na ca], .int .i64 ((na : Int) - 1)] W fun e w' => e = .returned (.tuple #[.string sa, .int .i64 0]) ∧ Below W.heap.size W w' by
    have := key_any ⟨1, 0, 5, 0, 77, sA⟩ ((na : Int) - 1) t (by show 1 < 256; omega) (by show used sA ≤ _; have := UAB.out.1; omega)
    rw [KAB.out.1, KAB.out.2.1] at this
    exact this))
  have KK2 := Lib.hid (fun (W : World) (t : Page.Rows W (.slice eb nb cb) sB) => (show Calls Tryd.prog 10 #[.agg #[.int .u8 1, .int .u8 0, .int .u32 5, .int .u64 0, .int .u32 9, .slice eb nb cb], .int .i64 0] W fun e w' => e = .returned (.tuple #[.string sb, .int .i64 0]) ∧ Below W.heap.size W w' by
    have := key_any ⟨1, 0, 5, 0, 9, sB⟩ 0 t (by show 1 < 256; omega) (by show used sB ≤ _; have := UAB.out.2; omega)
    rw [KAB.out.2.2.1, KAB.out.2.2.2] at this
    exact this))
  have KC1 := Lib.hid (fun W => Key.rcompare_any sa sS W (by unfold maxLen; have := ZZ.out.2.1; omega) (by unfold maxLen; have := ZZ.out.1; omega))
  have KC2 := Lib.hid (fun W => Key.rcompare_any sS sb W (by unfold maxLen; have := ZZ.out.1; omega) (by unfold maxLen; have := ZZ.out.2.2; omega))
  have KMG := Lib.hid (fun (W : World) (t : Page.Rows W (.slice ea na ca) sA) (s : Page.Rows W (.slice eb nb cb) sB) => (show Calls Tryd.prog 29 #[.agg #[.int .u8 1, .int .u8 0, .int .u32 5, .int .u64 0, .int .u32 77, .slice ea na ca], .agg #[.int .u8 1, .int .u8 0, .int .u32 5, .int .u64 0, .int .u32 9, .slice eb nb cb]] W fun e w' => ∃ ad cap, e = .returned (.tuple #[pgV wR (.slice ad wR.rows.length cap), .int .i64 wE]) ∧ Below W.heap.size W w' ∧ Page.Rows w' (.slice ad wR.rows.length cap) wR.rows ∧ CapOk (.slice ad wR.rows.length cap) by
    have := pg_post (merge_any ⟨1, 0, 5, 0, 77, sA⟩ ⟨1, 0, 5, 0, 9, sB⟩ t s OA.out OB.out (by show 1 < 256; omega) (by show 1 < 256; omega) (by show used sA ≤ _; have := UAB.out.1; omega) (by show used sB ≤ _; have := UAB.out.2; omega))
    rw [ME.out, MR.out] at this
    exact this))
  have WL := Lib.hid (show wR.rows.length ≤ 1000000 by
    rw [← MR.out]
    unfold mrgR
    split
    · show (sA ++ sB).length ≤ _
      have := LAB.out
      rw [List.length_append]
      omega
    · simp [Pg.zero])
  have KSM := Lib.hid (fun (W : World) (v1 v2 : Value) (h1 : Page.Rows W v1 wR.rows) (h2 : Page.Rows W v2 wR.rows) => (show Calls Tryd.prog 24 #[pgV wR v1, pgV wR v2] W fun e w' => e = .returned (.bool true) ∧ Below W.heap.size W w' by
    have := Page.rsame_any _ _ h1 h2 WL.out
    rw [same_self] at this
    exact this))
  obtain ⟨cc1, cc2⟩ := CC.out
  clear UAB MA MB KAB ZZ OA OB ME MR WL LAB QAU LQ L1 L2 UL EAB CC R0 PE RA RB NA NB
  generalize cmpOf sa sS = cm1 at *
  generalize cmpOf sS sb = cm2 at *
  have d3 : decide (0 ≤ cm1) = false := decide_eq_false (by omega)
  have d4 : decide (0 < cm2) = false := decide_eq_false (by omega)
  obtain ⟨mw, hmw⟩ : ∃ x, x = wR.rows.length := ⟨_, rfl⟩
  rw [← hmw] at KMG QW
  clear hmw
  unfold pgV at KMG KSM
  obtain ⟨a0, a1, a2, a3, a4, a5⟩ := six77 X3.out
  go_wp2_with fail
  refine (KM1.out _ X3.out.rows).mono ?_
  rintro e w12 ⟨rfl, b12⟩
  have X4 := Lib.hid (X3.out.later b12)
  have Y4 := Lib.hid (Y3.out.later b12)
  have Z4 := Lib.hid (Z3.out.later b12)
  clear b12 X3 Y3 Z3 KM1 a0 a1 a2 a3 a4 a5
  obtain ⟨a0, a1, a2, a3, a4, a5⟩ := six9 Y4.out
  go_wp2_with fail
  refine (KM2.out _ Y4.out.rows).mono ?_
  rintro e w13 ⟨rfl, b13⟩
  have X5 := Lib.hid (X4.out.later b13)
  have Y5 := Lib.hid (Y4.out.later b13)
  have Z5 := Lib.hid (Z4.out.later b13)
  clear b13 X4 Y4 Z4 KM2 a0 a1 a2 a3 a4 a5
  obtain ⟨a0, a1, a2, a3, a4, a5⟩ := six77 X5.out
  go_wp2_with fail
  refine (KK1.out _ X5.out.rows).mono ?_
  rintro e w14 ⟨rfl, b14⟩
  have X6 := Lib.hid (X5.out.later b14)
  have Y6 := Lib.hid (Y5.out.later b14)
  have Z6 := Lib.hid (Z5.out.later b14)
  clear b14 X5 Y5 Z5 KK1 a0 a1 a2 a3 a4 a5
  obtain ⟨a0, a1, a2, a3, a4, a5⟩ := six9 Y6.out
  go_wp2_with fail
  refine (KK2.out _ Y6.out.rows).mono ?_
  rintro e w15 ⟨rfl, b15⟩
  have X7 := Lib.hid (X6.out.later b15)
  have Y7 := Lib.hid (Y6.out.later b15)
  have Z7 := Lib.hid (Z6.out.later b15)
  clear b15 X6 Y6 Z6 KK2 a0 a1 a2 a3 a4 a5
  go_wp2_with fail
  refine (KC1.out _).mono ?_
  rintro e w16 ⟨rfl, b16⟩
  have X8 := Lib.hid (X7.out.later b16)
  have Y8 := Lib.hid (Y7.out.later b16)
  have Z8 := Lib.hid (Z7.out.later b16)
  clear b16 X7 Y7 Z7 KC1
  go_wp2_with fail
  refine (KC2.out _).mono ?_
  rintro e w17 ⟨rfl, b17⟩
  have X9 := Lib.hid (X8.out.later b17)
  have Y9 := Lib.hid (Y8.out.later b17)
  have Z9 := Lib.hid (Z8.out.later b17)
  clear b17 X8 Y8 Z8 KC2
  obtain ⟨a0, a1, a2, a3, a4, a5⟩ := six77 X9.out
  obtain ⟨e0, e1, e2, e3, e4, e5⟩ := six9 Y9.out
  go_wp2_with fail
  refine (KMG.out _ X9.out.rows Y9.out.rows).mono ?_
  rintro e w18 ⟨ex, cx, rfl, b18, r18, _⟩
  have n18 := below_new w18 (.cells (pgC wR (.slice ex mw cx)) 26)
  have ZA := Lib.hid ((Z9.out.later b18).later n18)
  have PA := Lib.hid (show Pb w8 (w18.alloc (.cells (pgC wR (.slice ex mw cx)) 26)) w18.heap.size wR (.slice ex mw cx) from ⟨heap_alloc_new w18 _, r18.later n18, ZA.out.below⟩)
  clear b18 n18 r18 X9 Y9 Z9 KMG a0 a1 a2 a3 a4 a5 e0 e1 e2 e3 e4 e5 cc1 cc2 d3 d4
  go_upto_region 31 with fail
  unfold pgC at ZA PA
  generalize w18.alloc _ = W18 at *
  generalize w18.heap.size = gx at *
  obtain ⟨a0, a1, a2, a3, a4, a5⟩ := ZA.out.six
  go_wp2_with fail
  refine (QW.out _ _ ZA.out.rows CU.out).mono ?_
  rintro e w19 ⟨ey, cy, rfl, b19, r19, _⟩
  have n19 := below_new w19 (.cells (pgC wR (.slice ey mw cy)) 26)
  have PB := Lib.hid ((PA.out.later b19).later n19)
  have PC := Lib.hid (show Pb w8 (w19.alloc (.cells (pgC wR (.slice ey mw cy)) 26)) w19.heap.size wR (.slice ey mw cy) from ⟨heap_alloc_new w19 _, r19.later n19, PB.out.below⟩)
  clear b19 n19 r19 ZA PA QW a0 a1 a2 a3 a4 a5
  go_upto_region 32 with fail
  unfold pgC at PB PC
  generalize w19.alloc _ = W19 at *
  generalize w19.heap.size = gy at *
  have z0 : (wE == wE) = true := by simp
  by_cases hE : wE = 0
  · subst hE
    obtain ⟨a0, a1, a2, a3, a4, a5⟩ := PB.out.six
    obtain ⟨e0, e1, e2, e3, e4, e5⟩ := PC.out.six
    go_wp2_with fail
    refine (KSM.out _ _ _ PB.out.rows PC.out.rows).mono ?_
    rintro e w20 ⟨rfl, b20⟩
    have PD := Lib.hid (PB.out.later b20)
    clear b20 PB PC KSM a0 a1 a2 a3 a4 a5 e0 e1 e2 e3 e4 e5
    go_wp2_with fail
    refine (alive_any _).mono ?_
    rintro e w21 ⟨rfl, b21⟩
    have B9 := Lib.hid (BB.out.trans ((PD.out.later b21).below.mono BB.out.size))
    clear b21 PD
    go_wp2_with fail
    go_ret
    exact ⟨rfl, B9.out⟩
  · have z1 : (wE != 0) = true := by simp [hE]
    clear KSM
    go_wp2_with fail
    refine (alive_any _).mono ?_
    rintro e w21 ⟨rfl, b21⟩
    have B9 := Lib.hid (BB.out.trans ((PB.out.later b21).below.mono BB.out.size))
    clear b21 PB PC
    go_wp2_with fail
    go_ret
    exact ⟨rfl, B9.out⟩

end Go.Proofs.YtbdbnpcbbebelaaDoor.Node
