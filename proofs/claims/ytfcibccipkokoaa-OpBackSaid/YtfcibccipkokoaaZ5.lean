/-
  Who carries an op's parts: a call by an interface as one step of a region.
  Walks: the parts of an op, each carried.
-/
import Derived.Test.YtfcibccipkokoaaZ4
import Derived.Test.YtfcibccipkokoaaZ3
namespace Go.Proofs.Ytfcibccipkokoaa
open Go.RowKit

theorem run_inv {P : Program} {o : Oper} {a : Act} {w : World} {r : Operand} {name : String} {args : Array Operand} {tys : Array TypeId} (hop : o.op = .call { callee := .invoke r name, args := args, argTypes := tys })
    {t : TypeId} {x : Value} (hr : a.eval r = .iface t x) {n : Nat} (hm : (method (P.types.size + Made.depth) t x name).run P w = .ok (n, x) w) {fn : Func} (hf : P.funcs[n]? = some fn) (hb : fn.body.isNone = false) (hn : (fn.name == "runtime.NumGoroutine") = false) :
    (execOp a.eval o).run P w = .ok (.enter n (#[x] ++ args.map a.eval)) w := by
  have h0 : (#[a.eval r] ++ args.map a.eval)[0]? = some (.iface t x) := by rw [hr, ← Array.getElem?_toList, Array.toList_append]; rfl
  have h1 : (#[a.eval r] ++ args.map a.eval).extract 1 (#[a.eval r] ++ args.map a.eval).size = args.map a.eval := by apply Array.toList_inj.1; simp [Array.toList_extract, List.extract_eq_take_drop]; apply List.take_of_length_le; simp
  simp only [execOp, hop, resolve, Sem.run_bind, Sem.run_pure, Result.andThen_ok, invoke, h0, h1, callMethod, run_program, hm, callFunc, hf]
  rw [if_neg (by simpa using hn), if_neg (fun e => by rw [e] at hb; cases hb)]
  rfl
theorem step_inv {P : Program} {ops : Array Oper} {o : Oper} {a : Act} {w : World} {K : Act → World → Prop} {Q : Exit → Act → World → Prop} {E : Prop}
    (hg : o.guard = none) (r : Operand) (name : String) (args : List Operand) (tys : Array TypeId) (hop : o.op = .call { callee := .invoke r name, args := args.toArray, argTypes := tys })
    (t : TypeId) (x : Value) (hr : a.eval r = .iface t x) (n : Nat) (hm : (method (P.types.size + Made.depth) t x name).run P w = .ok (n, x) w) (fn : Func) (hf : P.funcs[n]? = some fn) (hb : fn.body.isNone = false) (hn : (fn.name == "runtime.NumGoroutine") = false)
    {vs : List Value} {C : Ending → World → Prop} (hc : Calls P n vs.toArray w C) (hv : x :: args.map a.eval = vs) (hk : ∀ e w', C e w' → ∃ v, e = .returned v ∧ K (a.put o.dst v) w') :
    if Region.wanted o (yielded ops a.tmps) = true then Oper.wp P o a w K Q else E := by
  have hw : Region.wanted o (yielded ops a.tmps) = true := by simp [Region.wanted, hg]
  rw [if_pos hw]
  unfold Oper.wp
  have e1 : #[x] ++ args.toArray.map a.eval = vs.toArray := by rw [← hv]; simp
  rw [run_inv hop hr hm hf hb hn, Oper.upon_enter, e1]
  refine hc.mono fun e w' h => ?_
  obtain ⟨v, rfl, h2⟩ := hk e w' h
  exact h2
/-- a method of an interface value is looked at: it is there -/
theorem run_nil {P : Program} {a : Act} {w : World} {o : Oper} {y : Operand} {name : String} {t : TypeId} {x : Value} (ho : o.op = .nilCheck y) (hy : a.eval y = .func (.method name) #[.iface t x] #[]) (hn : (nilAhead (P.types.size + Made.depth) t x name).run P w = .ok (some false) w) :
    (execOp a.eval o).run P w = .ok (.value (.func (.method name) #[.iface t x] #[])) w := by
  simp only [execOp, ho, hy]
  simp [Result.andThen, hn]

namespace Op
open Go.Proofs.Ytfcibccipkokoaa.Seq (strS Is Own)
/-- only blocks of these types, from B on, are touched -/
structure Only (B : Nat) (T : TypeId → Bool) (w w' : World) : Prop where
  os : w'.os = w.os
  tape : w'.tape = w.tape
  output : w'.output = w.output
  size : w.heap.size ≤ w'.heap.size
  block : ∀ b, b < w.heap.size → (b < B ∨ ∀ cs t f, w.heap[b]? = some (.cells cs t f) → T t = false) → w'.heap[b]? = w.heap[b]?
section
variable {B : Nat} {T U : TypeId → Bool} {a b c w w' : World}
theorem Only.refl (B : Nat) (T : TypeId → Bool) (w : World) : Only B T w w := ⟨rfl, rfl, rfl, Nat.le_refl _, fun _ _ _ => rfl⟩
theorem Only.trans (h : Only B T a b) (k : Only B T b c) : Only B T a c :=
  ⟨k.os.trans h.os, k.tape.trans h.tape, k.output.trans h.output, Nat.le_trans h.size k.size, fun x hx hn => by
    have e := h.block x hx hn
    refine (k.block x (Nat.lt_of_lt_of_le hx h.size) (hn.imp id fun g cs t f hc => g cs t f (by rw [← e]; exact hc))).trans e⟩
theorem Only.mono (h : Only B T a b) (hT : ∀ t, T t = true → U t = true) : Only B U a b :=
  ⟨h.os, h.tape, h.output, h.size, fun x hx hn => h.block x hx (hn.imp id fun g cs t f hc => by
    have := g cs t f hc
    cases hh : T t
    · rfl
    · rw [hT t hh] at this; cases this)⟩
theorem Only.ofNew (h : Below w.heap.size w w') : Only B T w w' := ⟨h.os, h.tape, h.output, h.size, fun x hx _ => h.block x hx⟩
theorem Only.below (h : Only B T w w') (hB : B ≤ w.heap.size) : Below B w w' := ⟨h.os, h.tape, h.output, h.size, fun x hx => h.block x (by omega) (.inl hx)⟩
theorem Only.keep (h : Only B T w w') {x : Nat} {cs : Array Value} {t : TypeId} {f : Nat × Nat} (hx : w.heap[x]? = some (.cells cs t f)) (ht : T t = false) : w'.heap[x]? = some (.cells cs t f) :=
  (h.block x (Array.getElem?_eq_some_iff.1 hx).1 (.inr fun cs' t' f' hc => by
    rw [hx] at hc
    simp only [Option.some.injEq, Obj.cells.injEq] at hc
    rw [← hc.2.1]; exact ht)).trans hx
theorem Only.drew (h : Only B T a w) : Only B T a w.drew := ⟨h.os, h.tape, h.output, h.size, h.block⟩
theorem Only.alloc (h : Only B T a w) (o : Obj) : Only B T a (w.alloc o) := h.trans (Only.ofNew ((Below.refl _ _).alloc (Nat.le_refl _) o))
/-- a store into a block of such a type, or into one that is new -/
theorem Only.set {g : Nat} {cs : Array Value} {t : TypeId} {f : Nat × Nat} (hg : w.heap[g]? = some (.cells cs t f)) (hB : B ≤ g) (ht : T t = true) (j : Nat) (u : Value) : Only B T w (w.setCell ⟨g, j, none⟩ u) :=
  ⟨rfl, rfl, rfl, by simp, fun x _ hn => heap_setCell_other _ _ _ _ (fun e => by
    subst e
    rcases hn with hn | hn
    · omega
    · rw [hn _ _ _ hg] at ht; cases ht)⟩
theorem Only.setNew (h : Only B T a w) {g : Nat} (hg : a.heap.size ≤ g) (j : Nat) (u : Value) : Only B T a (w.setCell ⟨g, j, none⟩ u) :=
  ⟨h.os, h.tape, h.output, by simpa using h.size, fun x hx hn => by rw [heap_setCell_other _ _ _ _ (show x ≠ g by omega)]; exact h.block x hx hn⟩
theorem Only.rowNew (h : Only B T a w) {g : Nat} (hg : a.heap.size ≤ g) (cs : Array Value) : Only B T a (w.setRow g cs) :=
  ⟨h.os, h.tape, h.output, by have := h.size; simpa [World.setRow] using this, fun x hx hn => by rw [setRow_other _ _ _ _ (show x ≠ g by omega)]; exact h.block x hx hn⟩
/-- what follows touches, beside such blocks, only what was made on the way -/
theorem Only.step (h : Only B T a b) (k : Only B U b c) (hk : ∀ x, x < a.heap.size → B ≤ x → ∀ cs t f, b.heap[x]? = some (.cells cs t f) → U t = true → T t = true) : Only B T a c :=
  ⟨k.os.trans h.os, k.tape.trans h.tape, k.output.trans h.output, Nat.le_trans h.size k.size, fun x hx hn => by
    have e := h.block x hx hn
    refine (k.block x (Nat.lt_of_lt_of_le hx h.size) ?_).trans e
    rcases hn with hn | hn
    · exact .inl hn
    · by_cases hb : x < B
      · exact .inl hb
      · refine .inr fun cs t f hc => ?_
        cases hu : U t
        · rfl
        · have := hk x hx (by omega) cs t f hc hu
          rw [hn cs t f (by rw [← e]; exact hc)] at this
          cases this⟩
end

def tcar (t : TypeId) : Bool := t == 70 || t == 5 || t == 76
def tpar (t : TypeId) : Bool := t == 72 || t == 9
def tall (t : TypeId) : Bool := t == 72 || tcar t
theorem tall_car (t : TypeId) (h : tcar t = true) : tall t = true := by unfold tall; rw [h, Bool.or_true]
def tone (t : TypeId) : Bool := t == 72
theorem tone_all (t : TypeId) (h : tone t = true) : tall t = true := by unfold tall; unfold tone at h; rw [h, Bool.true_or]
theorem tone_par (t : TypeId) (h : tone t = true) : tpar t = true := by unfold tpar; unfold tone at h; rw [h, Bool.true_or]

/-- who carries parts: what he answers, what becomes of him, how much room he has; how he lies -/
structure Car (σ : Type) where
  t : TypeId
  x : Value
  fn : Nat
  ft : Nat
  B : Nat
  num : σ → Nat → Nat → Nat × σ
  txt : σ → ByteArray → ByteArray × σ
  room : σ → Nat → Prop
  inv : World → σ → Prop
abbrev Car.v {σ : Type} (C : Car σ) : Value := .iface C.t C.x
structure Car.Ok {σ : Type} (C : Car σ) : Prop where
  mn : ∀ w, (method (Try.prog.types.size + Made.depth) C.t C.x "pentimento/op.number").run Try.prog w = .ok (C.fn, C.x) w
  mt : ∀ w, (method (Try.prog.types.size + Made.depth) C.t C.x "pentimento/op.text").run Try.prog w = .ok (C.ft, C.x) w
  nn : ∀ w, (nilAhead (Try.prog.types.size + Made.depth) C.t C.x "pentimento/op.number").run Try.prog w = .ok (some false) w
  nt : ∀ w, (nilAhead (Try.prog.types.size + Made.depth) C.t C.x "pentimento/op.text").run Try.prog w = .ok (some false) w
  en : ∃ fn, Try.prog.funcs[C.fn]? = some fn ∧ fn.body.isNone = false ∧ (fn.name == "runtime.NumGoroutine") = false
  et : ∃ fn, Try.prog.funcs[C.ft]? = some fn ∧ fn.body.isNone = false ∧ (fn.name == "runtime.NumGoroutine") = false
  lt : ∀ s n m, n < 256 ^ m → (C.num s n m).1 < 256 ^ m
  tl : ∀ s t, t.size ≤ 65535 → (C.txt s t).1.size ≤ 65535
  rl : ∀ s a b, a ≤ b → C.room s b → C.room s a
  rn : ∀ s n m k, C.room s (m + k) → C.room (C.num s n m).2 k
  rt : ∀ s t k, C.room s (2 + t.size + k) → C.room (C.txt s t).2 k
  keep : ∀ w w' s, C.inv w s → Only C.B tpar w w' → C.inv w' s
  cn : ∀ w s (n m : Nat), C.inv w s → C.room s m → (m = 1 ∨ m = 2 ∨ m = 4) → n < 256 ^ m → Calls Try.prog C.fn #[C.x, .int .u64 (n : Int), .int .i64 (m : Int)] w fun e w' => e = .returned (.int .u64 ((C.num s n m).1 : Int)) ∧ C.inv w' (C.num s n m).2 ∧ Only C.B tcar w w'
  ct : ∀ w s t, C.inv w s → C.room s (2 + t.size) → t.size ≤ 65535 → Calls Try.prog C.ft #[C.x, .string t] w fun e w' => e = .returned (.string (C.txt s t).1) ∧ C.inv w' (C.txt s t).2 ∧ Only C.B tcar w w'

/-- an op whose parts fit the bytes they are written in -/
structure Fit (o : O) : Prop where
  wf : o.wf
  a : 0 ≤ o.at' ∧ o.at' ≤ 65535
  f : 0 ≤ o.off ∧ o.off ≤ 65535
  text : o.text.size ≤ 65535
  len : o.rows.length ≤ 65535
  each : ∀ r ∈ o.rows, r.size ≤ 65535
/-- a list of texts that was there ahead of all, or lies in a block of texts -/
structure Rk (B : Nat) (w : World) (u : Value) (l : List ByteArray) : Prop where
  is : Is strS w u l
  at' : ∀ a n c, u = .slice (some a) n c → a.block < B ∨ l = [] ∨ ∃ cs f, w.heap[a.block]? = some (.cells cs 9 f)
theorem Rk.only {B : Nat} {T : TypeId → Bool} {w w' : World} {u : Value} {l : List ByteArray} (h : Rk B w u l) (k : Only B T w w') (hT : T 9 = false) : Rk B w' u l := by
  obtain ⟨⟨a, cap, rfl, h1, h2, hc⟩, h4⟩ := h
  have key : ∀ x o, a = some ⟨x, o, none⟩ → x < w.heap.size → l ≠ [] → w'.heap[x]? = w.heap[x]? := by
    rintro x o rfl hx hne
    rcases h4 _ _ _ rfl with h | h | ⟨cs, f, h⟩
    · exact k.block x hx (.inl h)
    · exact absurd h hne
    · exact (k.keep h hT).trans h.symm
  refine ⟨⟨a, cap, rfl, h1, h2, hc.imp id ?_⟩, ?_⟩
  · rintro ⟨x, o, ha, hx, hj⟩
    refine ⟨x, o, ha, Nat.lt_of_lt_of_le hx k.size, fun j v hv => ?_⟩
    have hne : l ≠ [] := by rintro rfl; simp [Seq.all] at hv
    exact (World.cell?_of_block (key x o ha hx hne)).trans (hj j v hv)
  · intro a' n c e
    rcases h4 a' n c e with h | h | ⟨cs, f, h⟩
    · exact .inl h
    · exact .inr (.inl h)
    · exact .inr (.inr ⟨cs, f, k.keep h hT⟩)
theorem Rk.nil (B : Nat) (w : World) : Rk B w (.slice none 0 0) [] := ⟨Is.nil w, fun a n c e => by cases e⟩
/-- an op, part by part, in its box -/
structure Pb (B : Nat) (w : World) (g : Nat) (o : O) (u : Value) : Prop where
  box : w.heap[g]? = some (.cells (oC o u) 72 (0, 0))
  ge : B ≤ g
  fit : Fit o
  rows : Rk B w u o.rows
section
variable {B g : Nat} {w w' : World} {o o' : O} {u u' : Value}
theorem Pb.car (h : Pb B w g o u) (k : Only B tcar w w') : Pb B w' g o u := ⟨k.keep h.box (by decide), h.ge, h.fit, h.rows.only k (by decide)⟩
theorem Pb.later (h : Pb B w g o u) (k : Below w.heap.size w w') : Pb B w' g o u := h.car (Only.ofNew k)
theorem Pb.nine (h : Pb B w g o u) : (w.cell? ⟨g, 0, none⟩ = some (.int .u8 (o.kind : Int)) ∧ w.cell? ⟨g, 1, none⟩ = some (.int .u32 (o.page : Int)) ∧ w.cell? ⟨g, 2, none⟩ = some (.int .i64 o.at') ∧ w.cell? ⟨g, 3, none⟩ = some (.int .i64 o.off) ∧ w.cell? ⟨g, 4, none⟩ = some (.string o.text) ∧ w.cell? ⟨g, 5, none⟩ = some (u) ∧ w.cell? ⟨g, 6, none⟩ = some (.int .u8 (o.pkind : Int)) ∧ w.cell? ⟨g, 7, none⟩ = some (.int .u8 (o.level : Int)) ∧ w.cell? ⟨g, 8, none⟩ = some (.int .u32 (o.next : Int))) := by
  refine ⟨?_, ?_, ?_, ?_, ?_, ?_, ?_, ?_, ?_⟩ <;> (rw [cell_of_row _ _ _ _ _ _ h.box]; rfl)
theorem Pb.free (h : Pb B w g o u) (j : Nat) : w.frozen? ⟨g, j, none⟩ = false := frozen_of_row _ _ _ _ _ h.box
theorem Pb.part (h : Pb B w g o u) (j : Nat) (z : Value) (e : (oC o u).setIfInBounds j z = oC o' u') (hf : Fit o') (hr : Rk B w u' o'.rows) : Pb B (w.setCell ⟨g, j, none⟩ z) g o' u' :=
  ⟨by rw [heap_setCell_same w g j _ _ _ h.box, e], h.ge, hf, hr.only (T := tone) (Only.set h.box h.ge rfl j z) (by decide)⟩
theorem Pb.only (h : Pb B w g o u) (j : Nat) (z : Value) : Only B tone w (w.setCell ⟨g, j, none⟩ z) := Only.set h.box h.ge rfl j z
end
end Op
end Go.Proofs.Ytfcibccipkokoaa

namespace Go.Proofs.Ytfcibccipkokoaa.Op
open Go.RowKit
attribute [local go_sem ↓] Go.wp_at_zero Go.wp_at_succ

set_option maxRecDepth 100000 in
set_option maxHeartbeats 1000000 in
theorem kind_any {σ : Type} {C : Car σ} (H : C.Ok) {w : World} {g : Nat} {o : O} {u : Value} {s : σ} (I : C.inv w s) (X : Pb C.B w g o u) (hr : C.room s 1) :
    Calls Try.prog 60 #[.pointer (some ⟨g, 0, none⟩), C.v] w fun e w' => e = .returned (.tuple #[]) ∧ C.inv w' (C.num s o.kind 1).2 ∧ Pb C.B w' g { o with kind := (C.num s o.kind 1).1 } u ∧ Only C.B tall w w' := by
  obtain ⟨n, hn⟩ : ∃ n : Nat, n = o.kind := ⟨_, rfl⟩
  have b0 : n < 256 := by rw [hn]; have := X.fit.wf.kind; omega
  have KN := Lib.hid (fun (W : World) (J : C.inv W s) => H.cn W s n 1 J hr (by decide) (by omega))
  have b1 : (C.num s n 1).1 < 256 := H.lt s n 1 (by omega)
  have CC := Lib.hid (fun (W : World) (Y : Pb C.B W g o u) => (show W.cell? ⟨g, 0, none⟩ = some (.int .u8 (n : Int)) by
    rw [Y.nine.1, hn]
    ))
  have c0 := CC.out w X
  rw [← hn]
  have w0 : IntKind.u64.wrap (n : Int) = (n : Int) := by rw [IntKind.wrap_u64]; omega
  have w1 : IntKind.u8.wrap ((C.num s n 1).1 : Int) = ((C.num s n 1).1 : Int) := by rw [IntKind.wrap_u8]; omega
  obtain ⟨fn, f1, f2, f3⟩ := H.en
  have F1 := Lib.hid f1; have F2 := Lib.hid f2; have F3 := Lib.hid f3; clear f1 f2 f3
  have XX := Lib.hid X; have II := Lib.hid I; have HH := Lib.hid H
  have FZ := Lib.hid (X.free 0)
  generalize hy : C.num s n 1 = y at *
  have HY := Lib.hid hy
  clear hn hr I X H hy
  go_enter Try.func60, Try.ntmps60
  refine wp_region_noPanic ?_
  refine wp_region_held_drew (S := fun _ => True) (by kernel_rfl) trivial (fun hHeld => ?_)
  refine wpAnyH_take (i := 0) (v := ?_) rfl (by kernel_rfl) (by kernel_rfl) (by kernel_rfl) (fun _ _ _ h => h) (Or.inl ⟨by rfl, ?_⟩) hHeld ?_
  rotate_left
  · (intro W hSw; go_simp; (try with_reducible rfl))
  simp only [List.getElem_toArray, List.getElem_cons_zero, Act.put, List.setIfInBounds_toArray, List.set_cons_zero, List.set_cons_succ]
  refine wpAnyH_take (i := 1) (v := ?_) rfl (by kernel_rfl) (by kernel_rfl) (by kernel_rfl) (fun _ _ _ h => h) (Or.inl ⟨by rfl, ?_⟩) hHeld ?_
  rotate_left
  · (intro W hSw; go_simp; (try with_reducible rfl))
  simp only [List.getElem_toArray, List.getElem_cons_succ, List.getElem_cons_zero, Act.put, List.setIfInBounds_toArray, List.set_cons_zero, List.set_cons_succ]
  refine wpAnyH_take (i := 2) (v := ?_) rfl (by kernel_rfl) (by kernel_rfl) (by kernel_rfl) (fun _ _ _ h => h) (Or.inl ⟨by rfl, ?_⟩) hHeld ?_
  rotate_left
  · (intro W hSw; go_simp; (try with_reducible rfl))
  simp only [List.getElem_toArray, List.getElem_cons_succ, List.getElem_cons_zero, Act.put, List.setIfInBounds_toArray, List.set_cons_zero, List.set_cons_succ]
  refine wpAnyH_take (i := 3) (v := ?_) rfl (by kernel_rfl) (by kernel_rfl) (by kernel_rfl) (fun _ _ _ h => h) (Or.inl ⟨by rfl, ?_⟩) hHeld ?_
  rotate_left
  · (intro W hSw; go_simp; (try with_reducible rfl))
  simp only [List.getElem_toArray, List.getElem_cons_succ, List.getElem_cons_zero, Act.put, List.setIfInBounds_toArray, List.set_cons_zero, List.set_cons_succ]
  refine wpAnyH_take (i := 4) (v := ?_) rfl (by kernel_rfl) (by kernel_rfl) (by kernel_rfl) (fun _ _ _ h => h) (Or.inl ⟨by rfl, ?_⟩) hHeld ?_
  rotate_left
  · (intro W hSw; go_simp; (try with_reducible rfl))
  simp only [List.getElem_toArray, List.getElem_cons_succ, List.getElem_cons_zero, Act.put, List.setIfInBounds_toArray, List.set_cons_zero, List.set_cons_succ]
  refine wpAnyH_take (i := 7) (v := ?_) rfl (by kernel_rfl) (by kernel_rfl) (by kernel_rfl) (fun _ _ _ h => h) (Or.inl ⟨by rfl, ?_⟩) hHeld ?_
  rotate_left
  · (intro W hSw; go_simp; (try with_reducible rfl))
  simp only [List.getElem_toArray, List.getElem_cons_succ, List.getElem_cons_zero, Act.put, List.setIfInBounds_toArray, List.set_cons_zero, List.set_cons_succ]
  refine wpAnyH_take (i := 8) (v := _) rfl (by kernel_rfl) (by kernel_rfl) (by kernel_rfl) (fun _ _ _ h => h) (Or.inl ⟨by rfl, fun W _ => run_nil rfl rfl (HH.out.nn W)⟩) hHeld ?_
  simp only [List.getElem_toArray, List.getElem_cons_succ, List.getElem_cons_zero, Act.put, List.setIfInBounds_toArray, List.set_cons_zero, List.set_cons_succ]
  refine wpAnyH_take (i := 9) (v := ?_) rfl (by kernel_rfl) (by kernel_rfl) (by kernel_rfl) (fun _ _ _ h => h) (Or.inl ⟨by rfl, ?_⟩) hHeld ?_
  rotate_left
  · (intro W hSw; go_simp; (try with_reducible rfl))
  simp only [List.getElem_toArray, List.getElem_cons_succ, List.getElem_cons_zero, Act.put, List.setIfInBounds_toArray, List.set_cons_zero, List.set_cons_succ]
  refine wpAnyH_ready (rs := [5]) (by kernel_rfl) (by simp) (AllReadyH.cons rfl (fun K hK => ?_) AllReadyH.nil)
  rw [if_pos (by rfl)]
  unfold Oper.wp execOp
  go_simp
  refine hK.out _ _ trivial (fun hHeld => ?_)
  clear hK K
  try simp only [List.getElem_toArray, List.getElem_cons_succ, List.getElem_cons_zero, Act.put, List.setIfInBounds_toArray, List.set_cons_zero, List.set_cons_succ]
  refine wpAnyH_take (i := 6) (v := ?_) rfl (by kernel_rfl) (by kernel_rfl) (by kernel_rfl) (fun _ _ _ h => h) (Or.inl ⟨by rfl, ?_⟩) hHeld ?_
  rotate_left
  · (intro W hSw; go_simp; (try with_reducible rfl))
  simp only [List.getElem_toArray, List.getElem_cons_succ, List.getElem_cons_zero, Act.put, List.setIfInBounds_toArray, List.set_cons_zero, List.set_cons_succ]
  refine wpAnyH_ready (rs := [10]) (by kernel_rfl) (by simp) (AllReadyH.cons rfl (fun K hK => ?_) AllReadyH.nil)
  refine step_inv (by rfl) (.tmp 13) "pentimento/op.number" [.tmp 10, .const (.int .i64 1)] #[38, 3] rfl C.t C.x (by rfl) C.fn (HH.out.mn _) fn F1.out F2.out F3.out (KN.out _ (HH.out.keep _ _ _ II.out (Only.refl _ _ _).drew)) (by rfl) ?_
  rintro e w4 ⟨rfl, i4, u4⟩
  refine ⟨_, rfl, ?_⟩
  have X4 := Lib.hid ((XX.out.later (Below.refl _ _).drew).car u4)
  have I4 := Lib.hid i4
  have U4 := Lib.hid ((Only.mono ((Only.refl _ _ _).drew.trans u4) tall_car : Only C.B tall w w4))
  have c4 := CC.out w4 X4.out; clear c0
  have z4 := X4.out.free 0
  refine hK.out _ _ trivial (fun hHeld => ?_)
  clear hK K
  simp only [List.getElem_toArray, List.getElem_cons_succ, List.getElem_cons_zero, Act.put, List.setIfInBounds_toArray, List.set_cons_zero, List.set_cons_succ]
  refine wpAnyH_take (i := 11) (v := ?_) rfl (by kernel_rfl) (by kernel_rfl) (by kernel_rfl) (fun _ _ _ h => h) (Or.inl ⟨by rfl, ?_⟩) hHeld ?_
  rotate_left
  · (intro W hSw; go_simp; (try with_reducible rfl))
  simp only [List.getElem_toArray, List.getElem_cons_succ, List.getElem_cons_zero, Act.put, List.setIfInBounds_toArray, List.set_cons_zero, List.set_cons_succ]
  refine wpAnyH_take (i := 12) (v := ?_) rfl (by kernel_rfl) (by kernel_rfl) (by kernel_rfl) (fun _ _ _ h => h) (Or.inl ⟨by rfl, ?_⟩) hHeld ?_
  rotate_left
  · (intro W hSw; go_simp; (try with_reducible rfl))
  simp only [List.getElem_toArray, List.getElem_cons_succ, List.getElem_cons_zero, Act.put, List.setIfInBounds_toArray, List.set_cons_zero, List.set_cons_succ]
  refine wpAnyH_take (i := 13) (v := ?_) rfl (by kernel_rfl) (by kernel_rfl) (by kernel_rfl) (fun _ _ _ h => h) (Or.inl ⟨by rfl, ?_⟩) hHeld ?_
  rotate_left
  · (intro W hSw; go_simp; (try with_reducible rfl))
  simp only [List.getElem_toArray, List.getElem_cons_succ, List.getElem_cons_zero, Act.put, List.setIfInBounds_toArray, List.set_cons_zero, List.set_cons_succ]
  refine wpAnyH_ready (rs := [14]) (by kernel_rfl) (by simp) (AllReadyH.cons rfl (fun K hK => ?_) AllReadyH.nil)
  rw [if_pos (by rfl)]
  unfold Oper.wp execOp
  go_simp
  have f := X4.out.fit
  have P5 := Lib.hid (X4.out.part 0 (.int .u8 (y.1 : Int)) (o' := { o with kind := y.1 }) (u' := u) rfl ⟨⟨b1, f.wf.page, f.wf.pkind, f.wf.level, f.wf.next⟩, f.a, f.f, f.text, f.len, f.each⟩ X4.out.rows)
  have I5 := Lib.hid (HH.out.keep _ _ _ I4.out ((X4.out.only 0 (.int .u8 (y.1 : Int))).mono tone_par))
  have U5 := Lib.hid (U4.out.trans ((X4.out.only 0 (.int .u8 (y.1 : Int))).mono tone_all))
  refine hK.out _ _ trivial (fun hHeld => ?_)
  clear hK K f
  refine wpAnyH_done (by kernel_rfl) ?_ _
  refine NoPanic.normal ?_
  go_end0
  exact ⟨rfl, I5.out, P5.out, U5.out⟩
set_option maxRecDepth 100000 in
set_option maxHeartbeats 1000000 in
theorem page_any {σ : Type} {C : Car σ} (H : C.Ok) {w : World} {g : Nat} {o : O} {u : Value} {s : σ} (I : C.inv w s) (X : Pb C.B w g o u) (hr : C.room s 4) :
    Calls Try.prog 61 #[.pointer (some ⟨g, 0, none⟩), C.v] w fun e w' => e = .returned (.tuple #[]) ∧ C.inv w' (C.num s o.page 4).2 ∧ Pb C.B w' g { o with page := (C.num s o.page 4).1 } u ∧ Only C.B tall w w' := by
  obtain ⟨n, hn⟩ : ∃ n : Nat, n = o.page := ⟨_, rfl⟩
  have b0 : n < 4294967296 := by rw [hn]; have := X.fit.wf.page; omega
  have KN := Lib.hid (fun (W : World) (J : C.inv W s) => H.cn W s n 4 J hr (by decide) (by omega))
  have b1 : (C.num s n 4).1 < 4294967296 := H.lt s n 4 (by omega)
  have CC := Lib.hid (fun (W : World) (Y : Pb C.B W g o u) => (show W.cell? ⟨g, 1, none⟩ = some (.int .u32 (n : Int)) by
    rw [Y.nine.2.1, hn]
    ))
  have c0 := CC.out w X
  rw [← hn]
  have w0 : IntKind.u64.wrap (n : Int) = (n : Int) := by rw [IntKind.wrap_u64]; omega
  have w1 : IntKind.u32.wrap ((C.num s n 4).1 : Int) = ((C.num s n 4).1 : Int) := by rw [IntKind.wrap_u32]; omega
  obtain ⟨fn, f1, f2, f3⟩ := H.en
  have F1 := Lib.hid f1; have F2 := Lib.hid f2; have F3 := Lib.hid f3; clear f1 f2 f3
  have XX := Lib.hid X; have II := Lib.hid I; have HH := Lib.hid H
  have FZ := Lib.hid (X.free 1)
  generalize hy : C.num s n 4 = y at *
  have HY := Lib.hid hy
  clear hn hr I X H hy
  go_enter Try.func61, Try.ntmps61
  refine wp_region_noPanic ?_
  refine wp_region_held_drew (S := fun _ => True) (by kernel_rfl) trivial (fun hHeld => ?_)
  refine wpAnyH_take (i := 0) (v := ?_) rfl (by kernel_rfl) (by kernel_rfl) (by kernel_rfl) (fun _ _ _ h => h) (Or.inl ⟨by rfl, ?_⟩) hHeld ?_
  rotate_left
  · (intro W hSw; go_simp; (try with_reducible rfl))
  simp only [List.getElem_toArray, List.getElem_cons_zero, Act.put, List.setIfInBounds_toArray, List.set_cons_zero, List.set_cons_succ]
  refine wpAnyH_take (i := 1) (v := ?_) rfl (by kernel_rfl) (by kernel_rfl) (by kernel_rfl) (fun _ _ _ h => h) (Or.inl ⟨by rfl, ?_⟩) hHeld ?_
  rotate_left
  · (intro W hSw; go_simp; (try with_reducible rfl))
  simp only [List.getElem_toArray, List.getElem_cons_succ, List.getElem_cons_zero, Act.put, List.setIfInBounds_toArray, List.set_cons_zero, List.set_cons_succ]
  refine wpAnyH_take (i := 2) (v := ?_) rfl (by kernel_rfl) (by kernel_rfl) (by kernel_rfl) (fun _ _ _ h => h) (Or.inl ⟨by rfl, ?_⟩) hHeld ?_
  rotate_left
  · (intro W hSw; go_simp; (try with_reducible rfl))
  simp only [List.getElem_toArray, List.getElem_cons_succ, List.getElem_cons_zero, Act.put, List.setIfInBounds_toArray, List.set_cons_zero, List.set_cons_succ]
  refine wpAnyH_take (i := 3) (v := ?_) rfl (by kernel_rfl) (by kernel_rfl) (by kernel_rfl) (fun _ _ _ h => h) (Or.inl ⟨by rfl, ?_⟩) hHeld ?_
  rotate_left
  · (intro W hSw; go_simp; (try with_reducible rfl))
  simp only [List.getElem_toArray, List.getElem_cons_succ, List.getElem_cons_zero, Act.put, List.setIfInBounds_toArray, List.set_cons_zero, List.set_cons_succ]
  refine wpAnyH_take (i := 4) (v := ?_) rfl (by kernel_rfl) (by kernel_rfl) (by kernel_rfl) (fun _ _ _ h => h) (Or.inl ⟨by rfl, ?_⟩) hHeld ?_
  rotate_left
  · (intro W hSw; go_simp; (try with_reducible rfl))
  simp only [List.getElem_toArray, List.getElem_cons_succ, List.getElem_cons_zero, Act.put, List.setIfInBounds_toArray, List.set_cons_zero, List.set_cons_succ]
  refine wpAnyH_take (i := 7) (v := ?_) rfl (by kernel_rfl) (by kernel_rfl) (by kernel_rfl) (fun _ _ _ h => h) (Or.inl ⟨by rfl, ?_⟩) hHeld ?_
  rotate_left
  · (intro W hSw; go_simp; (try with_reducible rfl))
  simp only [List.getElem_toArray, List.getElem_cons_succ, List.getElem_cons_zero, Act.put, List.setIfInBounds_toArray, List.set_cons_zero, List.set_cons_succ]
  refine wpAnyH_take (i := 8) (v := _) rfl (by kernel_rfl) (by kernel_rfl) (by kernel_rfl) (fun _ _ _ h => h) (Or.inl ⟨by rfl, fun W _ => run_nil rfl rfl (HH.out.nn W)⟩) hHeld ?_
  simp only [List.getElem_toArray, List.getElem_cons_succ, List.getElem_cons_zero, Act.put, List.setIfInBounds_toArray, List.set_cons_zero, List.set_cons_succ]
  refine wpAnyH_take (i := 9) (v := ?_) rfl (by kernel_rfl) (by kernel_rfl) (by kernel_rfl) (fun _ _ _ h => h) (Or.inl ⟨by rfl, ?_⟩) hHeld ?_
  rotate_left
  · (intro W hSw; go_simp; (try with_reducible rfl))
  simp only [List.getElem_toArray, List.getElem_cons_succ, List.getElem_cons_zero, Act.put, List.setIfInBounds_toArray, List.set_cons_zero, List.set_cons_succ]
  refine wpAnyH_ready (rs := [5]) (by kernel_rfl) (by simp) (AllReadyH.cons rfl (fun K hK => ?_) AllReadyH.nil)
  rw [if_pos (by rfl)]
  unfold Oper.wp execOp
  go_simp
  refine hK.out _ _ trivial (fun hHeld => ?_)
  clear hK K
  try simp only [List.getElem_toArray, List.getElem_cons_succ, List.getElem_cons_zero, Act.put, List.setIfInBounds_toArray, List.set_cons_zero, List.set_cons_succ]
  refine wpAnyH_take (i := 6) (v := ?_) rfl (by kernel_rfl) (by kernel_rfl) (by kernel_rfl) (fun _ _ _ h => h) (Or.inl ⟨by rfl, ?_⟩) hHeld ?_
  rotate_left
  · (intro W hSw; go_simp; (try with_reducible rfl))
  simp only [List.getElem_toArray, List.getElem_cons_succ, List.getElem_cons_zero, Act.put, List.setIfInBounds_toArray, List.set_cons_zero, List.set_cons_succ]
  refine wpAnyH_ready (rs := [10]) (by kernel_rfl) (by simp) (AllReadyH.cons rfl (fun K hK => ?_) AllReadyH.nil)
  refine step_inv (by rfl) (.tmp 13) "pentimento/op.number" [.tmp 10, .const (.int .i64 4)] #[38, 3] rfl C.t C.x (by rfl) C.fn (HH.out.mn _) fn F1.out F2.out F3.out (KN.out _ (HH.out.keep _ _ _ II.out (Only.refl _ _ _).drew)) (by rfl) ?_
  rintro e w4 ⟨rfl, i4, u4⟩
  refine ⟨_, rfl, ?_⟩
  have X4 := Lib.hid ((XX.out.later (Below.refl _ _).drew).car u4)
  have I4 := Lib.hid i4
  have U4 := Lib.hid ((Only.mono ((Only.refl _ _ _).drew.trans u4) tall_car : Only C.B tall w w4))
  have c4 := CC.out w4 X4.out; clear c0
  have z4 := X4.out.free 1
  refine hK.out _ _ trivial (fun hHeld => ?_)
  clear hK K
  simp only [List.getElem_toArray, List.getElem_cons_succ, List.getElem_cons_zero, Act.put, List.setIfInBounds_toArray, List.set_cons_zero, List.set_cons_succ]
  refine wpAnyH_take (i := 11) (v := ?_) rfl (by kernel_rfl) (by kernel_rfl) (by kernel_rfl) (fun _ _ _ h => h) (Or.inl ⟨by rfl, ?_⟩) hHeld ?_
  rotate_left
  · (intro W hSw; go_simp; (try with_reducible rfl))
  simp only [List.getElem_toArray, List.getElem_cons_succ, List.getElem_cons_zero, Act.put, List.setIfInBounds_toArray, List.set_cons_zero, List.set_cons_succ]
  refine wpAnyH_take (i := 12) (v := ?_) rfl (by kernel_rfl) (by kernel_rfl) (by kernel_rfl) (fun _ _ _ h => h) (Or.inl ⟨by rfl, ?_⟩) hHeld ?_
  rotate_left
  · (intro W hSw; go_simp; (try with_reducible rfl))
  simp only [List.getElem_toArray, List.getElem_cons_succ, List.getElem_cons_zero, Act.put, List.setIfInBounds_toArray, List.set_cons_zero, List.set_cons_succ]
  refine wpAnyH_take (i := 13) (v := ?_) rfl (by kernel_rfl) (by kernel_rfl) (by kernel_rfl) (fun _ _ _ h => h) (Or.inl ⟨by rfl, ?_⟩) hHeld ?_
  rotate_left
  · (intro W hSw; go_simp; (try with_reducible rfl))
  simp only [List.getElem_toArray, List.getElem_cons_succ, List.getElem_cons_zero, Act.put, List.setIfInBounds_toArray, List.set_cons_zero, List.set_cons_succ]
  refine wpAnyH_ready (rs := [14]) (by kernel_rfl) (by simp) (AllReadyH.cons rfl (fun K hK => ?_) AllReadyH.nil)
  rw [if_pos (by rfl)]
  unfold Oper.wp execOp
  go_simp
  have f := X4.out.fit
  have P5 := Lib.hid (X4.out.part 1 (.int .u32 (y.1 : Int)) (o' := { o with page := y.1 }) (u' := u) rfl ⟨⟨f.wf.kind, b1, f.wf.pkind, f.wf.level, f.wf.next⟩, f.a, f.f, f.text, f.len, f.each⟩ X4.out.rows)
  have I5 := Lib.hid (HH.out.keep _ _ _ I4.out ((X4.out.only 1 (.int .u32 (y.1 : Int))).mono tone_par))
  have U5 := Lib.hid (U4.out.trans ((X4.out.only 1 (.int .u32 (y.1 : Int))).mono tone_all))
  refine hK.out _ _ trivial (fun hHeld => ?_)
  clear hK K f
  refine wpAnyH_done (by kernel_rfl) ?_ _
  refine NoPanic.normal ?_
  go_end0
  exact ⟨rfl, I5.out, P5.out, U5.out⟩
set_option maxRecDepth 100000 in
set_option maxHeartbeats 1000000 in
theorem at_any {σ : Type} {C : Car σ} (H : C.Ok) {w : World} {g : Nat} {o : O} {u : Value} {s : σ} (I : C.inv w s) (X : Pb C.B w g o u) (hr : C.room s 2) :
    Calls Try.prog 117 #[.pointer (some ⟨g, 0, none⟩), C.v] w fun e w' => e = .returned (.tuple #[]) ∧ C.inv w' (C.num s o.at'.toNat 2).2 ∧ Pb C.B w' g { o with at' := ((C.num s o.at'.toNat 2).1 : Int) } u ∧ Only C.B tall w w' := by
  obtain ⟨n, hn⟩ : ∃ n : Nat, n = o.at'.toNat := ⟨_, rfl⟩
  have b0 : n < 65536 := by rw [hn]; have := X.fit.a; omega
  have KN := Lib.hid (fun (W : World) (J : C.inv W s) => H.cn W s n 2 J hr (by decide) (by omega))
  have b1 : (C.num s n 2).1 < 65536 := H.lt s n 2 (by omega)
  have CC := Lib.hid (fun (W : World) (Y : Pb C.B W g o u) => (show W.cell? ⟨g, 2, none⟩ = some (.int .i64 (n : Int)) by
    rw [Y.nine.2.2.1, hn]
    rw [Int.toNat_of_nonneg Y.fit.a.1]
    ))
  have c0 := CC.out w X
  rw [← hn]
  have w0 : IntKind.u64.wrap (n : Int) = (n : Int) := by rw [IntKind.wrap_u64]; omega
  have w1 : IntKind.i64.wrap ((C.num s n 2).1 : Int) = ((C.num s n 2).1 : Int) := by rw [IntKind.wrap_i64]; omega
  obtain ⟨fn, f1, f2, f3⟩ := H.en
  have F1 := Lib.hid f1; have F2 := Lib.hid f2; have F3 := Lib.hid f3; clear f1 f2 f3
  have XX := Lib.hid X; have II := Lib.hid I; have HH := Lib.hid H
  have FZ := Lib.hid (X.free 2)
  generalize hy : C.num s n 2 = y at *
  have HY := Lib.hid hy
  clear hn hr I X H hy
  go_enter Try.func117, Try.ntmps117
  refine wp_region_noPanic ?_
  refine wp_region_held_drew (S := fun _ => True) (by kernel_rfl) trivial (fun hHeld => ?_)
  refine wpAnyH_take (i := 0) (v := ?_) rfl (by kernel_rfl) (by kernel_rfl) (by kernel_rfl) (fun _ _ _ h => h) (Or.inl ⟨by rfl, ?_⟩) hHeld ?_
  rotate_left
  · (intro W hSw; go_simp; (try with_reducible rfl))
  simp only [List.getElem_toArray, List.getElem_cons_zero, Act.put, List.setIfInBounds_toArray, List.set_cons_zero, List.set_cons_succ]
  refine wpAnyH_take (i := 1) (v := ?_) rfl (by kernel_rfl) (by kernel_rfl) (by kernel_rfl) (fun _ _ _ h => h) (Or.inl ⟨by rfl, ?_⟩) hHeld ?_
  rotate_left
  · (intro W hSw; go_simp; (try with_reducible rfl))
  simp only [List.getElem_toArray, List.getElem_cons_succ, List.getElem_cons_zero, Act.put, List.setIfInBounds_toArray, List.set_cons_zero, List.set_cons_succ]
  refine wpAnyH_take (i := 2) (v := ?_) rfl (by kernel_rfl) (by kernel_rfl) (by kernel_rfl) (fun _ _ _ h => h) (Or.inl ⟨by rfl, ?_⟩) hHeld ?_
  rotate_left
  · (intro W hSw; go_simp; (try with_reducible rfl))
  simp only [List.getElem_toArray, List.getElem_cons_succ, List.getElem_cons_zero, Act.put, List.setIfInBounds_toArray, List.set_cons_zero, List.set_cons_succ]
  refine wpAnyH_take (i := 3) (v := ?_) rfl (by kernel_rfl) (by kernel_rfl) (by kernel_rfl) (fun _ _ _ h => h) (Or.inl ⟨by rfl, ?_⟩) hHeld ?_
  rotate_left
  · (intro W hSw; go_simp; (try with_reducible rfl))
  simp only [List.getElem_toArray, List.getElem_cons_succ, List.getElem_cons_zero, Act.put, List.setIfInBounds_toArray, List.set_cons_zero, List.set_cons_succ]
  refine wpAnyH_take (i := 4) (v := ?_) rfl (by kernel_rfl) (by kernel_rfl) (by kernel_rfl) (fun _ _ _ h => h) (Or.inl ⟨by rfl, ?_⟩) hHeld ?_
  rotate_left
  · (intro W hSw; go_simp; (try with_reducible rfl))
  simp only [List.getElem_toArray, List.getElem_cons_succ, List.getElem_cons_zero, Act.put, List.setIfInBounds_toArray, List.set_cons_zero, List.set_cons_succ]
  refine wpAnyH_take (i := 7) (v := ?_) rfl (by kernel_rfl) (by kernel_rfl) (by kernel_rfl) (fun _ _ _ h => h) (Or.inl ⟨by rfl, ?_⟩) hHeld ?_
  rotate_left
  · (intro W hSw; go_simp; (try with_reducible rfl))
  simp only [List.getElem_toArray, List.getElem_cons_succ, List.getElem_cons_zero, Act.put, List.setIfInBounds_toArray, List.set_cons_zero, List.set_cons_succ]
  refine wpAnyH_take (i := 8) (v := _) rfl (by kernel_rfl) (by kernel_rfl) (by kernel_rfl) (fun _ _ _ h => h) (Or.inl ⟨by rfl, fun W _ => run_nil rfl rfl (HH.out.nn W)⟩) hHeld ?_
  simp only [List.getElem_toArray, List.getElem_cons_succ, List.getElem_cons_zero, Act.put, List.setIfInBounds_toArray, List.set_cons_zero, List.set_cons_succ]
  refine wpAnyH_take (i := 9) (v := ?_) rfl (by kernel_rfl) (by kernel_rfl) (by kernel_rfl) (fun _ _ _ h => h) (Or.inl ⟨by rfl, ?_⟩) hHeld ?_
  rotate_left
  · (intro W hSw; go_simp; (try with_reducible rfl))
  simp only [List.getElem_toArray, List.getElem_cons_succ, List.getElem_cons_zero, Act.put, List.setIfInBounds_toArray, List.set_cons_zero, List.set_cons_succ]
  refine wpAnyH_ready (rs := [5]) (by kernel_rfl) (by simp) (AllReadyH.cons rfl (fun K hK => ?_) AllReadyH.nil)
  rw [if_pos (by rfl)]
  unfold Oper.wp execOp
  go_simp
  refine hK.out _ _ trivial (fun hHeld => ?_)
  clear hK K
  try simp only [List.getElem_toArray, List.getElem_cons_succ, List.getElem_cons_zero, Act.put, List.setIfInBounds_toArray, List.set_cons_zero, List.set_cons_succ]
  refine wpAnyH_take (i := 6) (v := ?_) rfl (by kernel_rfl) (by kernel_rfl) (by kernel_rfl) (fun _ _ _ h => h) (Or.inl ⟨by rfl, ?_⟩) hHeld ?_
  rotate_left
  · (intro W hSw; go_simp; (try with_reducible rfl))
  simp only [List.getElem_toArray, List.getElem_cons_succ, List.getElem_cons_zero, Act.put, List.setIfInBounds_toArray, List.set_cons_zero, List.set_cons_succ]
  refine wpAnyH_ready (rs := [10]) (by kernel_rfl) (by simp) (AllReadyH.cons rfl (fun K hK => ?_) AllReadyH.nil)
  refine step_inv (by rfl) (.tmp 13) "pentimento/op.number" [.tmp 10, .const (.int .i64 2)] #[38, 3] rfl C.t C.x (by rfl) C.fn (HH.out.mn _) fn F1.out F2.out F3.out (KN.out _ (HH.out.keep _ _ _ II.out (Only.refl _ _ _).drew)) (by rfl) ?_
  rintro e w4 ⟨rfl, i4, u4⟩
  refine ⟨_, rfl, ?_⟩
  have X4 := Lib.hid ((XX.out.later (Below.refl _ _).drew).car u4)
  have I4 := Lib.hid i4
  have U4 := Lib.hid ((Only.mono ((Only.refl _ _ _).drew.trans u4) tall_car : Only C.B tall w w4))
  have c4 := CC.out w4 X4.out; clear c0
  have z4 := X4.out.free 2
  refine hK.out _ _ trivial (fun hHeld => ?_)
  clear hK K
  simp only [List.getElem_toArray, List.getElem_cons_succ, List.getElem_cons_zero, Act.put, List.setIfInBounds_toArray, List.set_cons_zero, List.set_cons_succ]
  refine wpAnyH_take (i := 11) (v := ?_) rfl (by kernel_rfl) (by kernel_rfl) (by kernel_rfl) (fun _ _ _ h => h) (Or.inl ⟨by rfl, ?_⟩) hHeld ?_
  rotate_left
  · (intro W hSw; go_simp; (try with_reducible rfl))
  simp only [List.getElem_toArray, List.getElem_cons_succ, List.getElem_cons_zero, Act.put, List.setIfInBounds_toArray, List.set_cons_zero, List.set_cons_succ]
  refine wpAnyH_take (i := 12) (v := ?_) rfl (by kernel_rfl) (by kernel_rfl) (by kernel_rfl) (fun _ _ _ h => h) (Or.inl ⟨by rfl, ?_⟩) hHeld ?_
  rotate_left
  · (intro W hSw; go_simp; (try with_reducible rfl))
  simp only [List.getElem_toArray, List.getElem_cons_succ, List.getElem_cons_zero, Act.put, List.setIfInBounds_toArray, List.set_cons_zero, List.set_cons_succ]
  refine wpAnyH_take (i := 13) (v := ?_) rfl (by kernel_rfl) (by kernel_rfl) (by kernel_rfl) (fun _ _ _ h => h) (Or.inl ⟨by rfl, ?_⟩) hHeld ?_
  rotate_left
  · (intro W hSw; go_simp; (try with_reducible rfl))
  simp only [List.getElem_toArray, List.getElem_cons_succ, List.getElem_cons_zero, Act.put, List.setIfInBounds_toArray, List.set_cons_zero, List.set_cons_succ]
  refine wpAnyH_ready (rs := [14]) (by kernel_rfl) (by simp) (AllReadyH.cons rfl (fun K hK => ?_) AllReadyH.nil)
  rw [if_pos (by rfl)]
  unfold Oper.wp execOp
  go_simp
  have f := X4.out.fit
  have P5 := Lib.hid (X4.out.part 2 (.int .i64 (y.1 : Int)) (o' := { o with at' := (y.1 : Int) }) (u' := u) rfl ⟨⟨f.wf.kind, f.wf.page, f.wf.pkind, f.wf.level, f.wf.next⟩, ⟨Int.natCast_nonneg _, by simp only; omega⟩, f.f, f.text, f.len, f.each⟩ X4.out.rows)
  have I5 := Lib.hid (HH.out.keep _ _ _ I4.out ((X4.out.only 2 (.int .i64 (y.1 : Int))).mono tone_par))
  have U5 := Lib.hid (U4.out.trans ((X4.out.only 2 (.int .i64 (y.1 : Int))).mono tone_all))
  refine hK.out _ _ trivial (fun hHeld => ?_)
  clear hK K f
  refine wpAnyH_done (by kernel_rfl) ?_ _
  refine NoPanic.normal ?_
  go_end0
  exact ⟨rfl, I5.out, P5.out, U5.out⟩
set_option maxRecDepth 100000 in
set_option maxHeartbeats 1000000 in
theorem off_any {σ : Type} {C : Car σ} (H : C.Ok) {w : World} {g : Nat} {o : O} {u : Value} {s : σ} (I : C.inv w s) (X : Pb C.B w g o u) (hr : C.room s 2) :
    Calls Try.prog 120 #[.pointer (some ⟨g, 0, none⟩), C.v] w fun e w' => e = .returned (.tuple #[]) ∧ C.inv w' (C.num s o.off.toNat 2).2 ∧ Pb C.B w' g { o with off := ((C.num s o.off.toNat 2).1 : Int) } u ∧ Only C.B tall w w' := by
  obtain ⟨n, hn⟩ : ∃ n : Nat, n = o.off.toNat := ⟨_, rfl⟩
  have b0 : n < 65536 := by rw [hn]; have := X.fit.f; omega
  have KN := Lib.hid (fun (W : World) (J : C.inv W s) => H.cn W s n 2 J hr (by decide) (by omega))
  have b1 : (C.num s n 2).1 < 65536 := H.lt s n 2 (by omega)
  have CC := Lib.hid (fun (W : World) (Y : Pb C.B W g o u) => (show W.cell? ⟨g, 3, none⟩ = some (.int .i64 (n : Int)) by
    rw [Y.nine.2.2.2.1, hn]
    rw [Int.toNat_of_nonneg Y.fit.f.1]
    ))
  have c0 := CC.out w X
  rw [← hn]
  have w0 : IntKind.u64.wrap (n : Int) = (n : Int) := by rw [IntKind.wrap_u64]; omega
  have w1 : IntKind.i64.wrap ((C.num s n 2).1 : Int) = ((C.num s n 2).1 : Int) := by rw [IntKind.wrap_i64]; omega
  obtain ⟨fn, f1, f2, f3⟩ := H.en
  have F1 := Lib.hid f1; have F2 := Lib.hid f2; have F3 := Lib.hid f3; clear f1 f2 f3
  have XX := Lib.hid X; have II := Lib.hid I; have HH := Lib.hid H
  have FZ := Lib.hid (X.free 3)
  generalize hy : C.num s n 2 = y at *
  have HY := Lib.hid hy
  clear hn hr I X H hy
  go_enter Try.func120, Try.ntmps120
  refine wp_region_noPanic ?_
  refine wp_region_held_drew (S := fun _ => True) (by kernel_rfl) trivial (fun hHeld => ?_)
  refine wpAnyH_take (i := 0) (v := ?_) rfl (by kernel_rfl) (by kernel_rfl) (by kernel_rfl) (fun _ _ _ h => h) (Or.inl ⟨by rfl, ?_⟩) hHeld ?_
  rotate_left
  · (intro W hSw; go_simp; (try with_reducible rfl))
  simp only [List.getElem_toArray, List.getElem_cons_zero, Act.put, List.setIfInBounds_toArray, List.set_cons_zero, List.set_cons_succ]
  refine wpAnyH_take (i := 1) (v := ?_) rfl (by kernel_rfl) (by kernel_rfl) (by kernel_rfl) (fun _ _ _ h => h) (Or.inl ⟨by rfl, ?_⟩) hHeld ?_
  rotate_left
  · (intro W hSw; go_simp; (try with_reducible rfl))
  simp only [List.getElem_toArray, List.getElem_cons_succ, List.getElem_cons_zero, Act.put, List.setIfInBounds_toArray, List.set_cons_zero, List.set_cons_succ]
  refine wpAnyH_take (i := 2) (v := ?_) rfl (by kernel_rfl) (by kernel_rfl) (by kernel_rfl) (fun _ _ _ h => h) (Or.inl ⟨by rfl, ?_⟩) hHeld ?_
  rotate_left
  · (intro W hSw; go_simp; (try with_reducible rfl))
  simp only [List.getElem_toArray, List.getElem_cons_succ, List.getElem_cons_zero, Act.put, List.setIfInBounds_toArray, List.set_cons_zero, List.set_cons_succ]
  refine wpAnyH_take (i := 3) (v := ?_) rfl (by kernel_rfl) (by kernel_rfl) (by kernel_rfl) (fun _ _ _ h => h) (Or.inl ⟨by rfl, ?_⟩) hHeld ?_
  rotate_left
  · (intro W hSw; go_simp; (try with_reducible rfl))
  simp only [List.getElem_toArray, List.getElem_cons_succ, List.getElem_cons_zero, Act.put, List.setIfInBounds_toArray, List.set_cons_zero, List.set_cons_succ]
  refine wpAnyH_take (i := 4) (v := ?_) rfl (by kernel_rfl) (by kernel_rfl) (by kernel_rfl) (fun _ _ _ h => h) (Or.inl ⟨by rfl, ?_⟩) hHeld ?_
  rotate_left
  · (intro W hSw; go_simp; (try with_reducible rfl))
  simp only [List.getElem_toArray, List.getElem_cons_succ, List.getElem_cons_zero, Act.put, List.setIfInBounds_toArray, List.set_cons_zero, List.set_cons_succ]
  refine wpAnyH_take (i := 7) (v := ?_) rfl (by kernel_rfl) (by kernel_rfl) (by kernel_rfl) (fun _ _ _ h => h) (Or.inl ⟨by rfl, ?_⟩) hHeld ?_
  rotate_left
  · (intro W hSw; go_simp; (try with_reducible rfl))
  simp only [List.getElem_toArray, List.getElem_cons_succ, List.getElem_cons_zero, Act.put, List.setIfInBounds_toArray, List.set_cons_zero, List.set_cons_succ]
  refine wpAnyH_take (i := 8) (v := _) rfl (by kernel_rfl) (by kernel_rfl) (by kernel_rfl) (fun _ _ _ h => h) (Or.inl ⟨by rfl, fun W _ => run_nil rfl rfl (HH.out.nn W)⟩) hHeld ?_
  simp only [List.getElem_toArray, List.getElem_cons_succ, List.getElem_cons_zero, Act.put, List.setIfInBounds_toArray, List.set_cons_zero, List.set_cons_succ]
  refine wpAnyH_take (i := 9) (v := ?_) rfl (by kernel_rfl) (by kernel_rfl) (by kernel_rfl) (fun _ _ _ h => h) (Or.inl ⟨by rfl, ?_⟩) hHeld ?_
  rotate_left
  · (intro W hSw; go_simp; (try with_reducible rfl))
  simp only [List.getElem_toArray, List.getElem_cons_succ, List.getElem_cons_zero, Act.put, List.setIfInBounds_toArray, List.set_cons_zero, List.set_cons_succ]
  refine wpAnyH_ready (rs := [5]) (by kernel_rfl) (by simp) (AllReadyH.cons rfl (fun K hK => ?_) AllReadyH.nil)
  rw [if_pos (by rfl)]
  unfold Oper.wp execOp
  go_simp
  refine hK.out _ _ trivial (fun hHeld => ?_)
  clear hK K
  try simp only [List.getElem_toArray, List.getElem_cons_succ, List.getElem_cons_zero, Act.put, List.setIfInBounds_toArray, List.set_cons_zero, List.set_cons_succ]
  refine wpAnyH_take (i := 6) (v := ?_) rfl (by kernel_rfl) (by kernel_rfl) (by kernel_rfl) (fun _ _ _ h => h) (Or.inl ⟨by rfl, ?_⟩) hHeld ?_
  rotate_left
  · (intro W hSw; go_simp; (try with_reducible rfl))
  simp only [List.getElem_toArray, List.getElem_cons_succ, List.getElem_cons_zero, Act.put, List.setIfInBounds_toArray, List.set_cons_zero, List.set_cons_succ]
  refine wpAnyH_ready (rs := [10]) (by kernel_rfl) (by simp) (AllReadyH.cons rfl (fun K hK => ?_) AllReadyH.nil)
  refine step_inv (by rfl) (.tmp 13) "pentimento/op.number" [.tmp 10, .const (.int .i64 2)] #[38, 3] rfl C.t C.x (by rfl) C.fn (HH.out.mn _) fn F1.out F2.out F3.out (KN.out _ (HH.out.keep _ _ _ II.out (Only.refl _ _ _).drew)) (by rfl) ?_
  rintro e w4 ⟨rfl, i4, u4⟩
  refine ⟨_, rfl, ?_⟩
  have X4 := Lib.hid ((XX.out.later (Below.refl _ _).drew).car u4)
  have I4 := Lib.hid i4
  have U4 := Lib.hid ((Only.mono ((Only.refl _ _ _).drew.trans u4) tall_car : Only C.B tall w w4))
  have c4 := CC.out w4 X4.out; clear c0
  have z4 := X4.out.free 3
  refine hK.out _ _ trivial (fun hHeld => ?_)
  clear hK K
  simp only [List.getElem_toArray, List.getElem_cons_succ, List.getElem_cons_zero, Act.put, List.setIfInBounds_toArray, List.set_cons_zero, List.set_cons_succ]
  refine wpAnyH_take (i := 11) (v := ?_) rfl (by kernel_rfl) (by kernel_rfl) (by kernel_rfl) (fun _ _ _ h => h) (Or.inl ⟨by rfl, ?_⟩) hHeld ?_
  rotate_left
  · (intro W hSw; go_simp; (try with_reducible rfl))
  simp only [List.getElem_toArray, List.getElem_cons_succ, List.getElem_cons_zero, Act.put, List.setIfInBounds_toArray, List.set_cons_zero, List.set_cons_succ]
  refine wpAnyH_take (i := 12) (v := ?_) rfl (by kernel_rfl) (by kernel_rfl) (by kernel_rfl) (fun _ _ _ h => h) (Or.inl ⟨by rfl, ?_⟩) hHeld ?_
  rotate_left
  · (intro W hSw; go_simp; (try with_reducible rfl))
  simp only [List.getElem_toArray, List.getElem_cons_succ, List.getElem_cons_zero, Act.put, List.setIfInBounds_toArray, List.set_cons_zero, List.set_cons_succ]
  refine wpAnyH_take (i := 13) (v := ?_) rfl (by kernel_rfl) (by kernel_rfl) (by kernel_rfl) (fun _ _ _ h => h) (Or.inl ⟨by rfl, ?_⟩) hHeld ?_
  rotate_left
  · (intro W hSw; go_simp; (try with_reducible rfl))
  simp only [List.getElem_toArray, List.getElem_cons_succ, List.getElem_cons_zero, Act.put, List.setIfInBounds_toArray, List.set_cons_zero, List.set_cons_succ]
  refine wpAnyH_ready (rs := [14]) (by kernel_rfl) (by simp) (AllReadyH.cons rfl (fun K hK => ?_) AllReadyH.nil)
  rw [if_pos (by rfl)]
  unfold Oper.wp execOp
  go_simp
  have f := X4.out.fit
  have P5 := Lib.hid (X4.out.part 3 (.int .i64 (y.1 : Int)) (o' := { o with off := (y.1 : Int) }) (u' := u) rfl ⟨⟨f.wf.kind, f.wf.page, f.wf.pkind, f.wf.level, f.wf.next⟩, f.a, ⟨Int.natCast_nonneg _, by simp only; omega⟩, f.text, f.len, f.each⟩ X4.out.rows)
  have I5 := Lib.hid (HH.out.keep _ _ _ I4.out ((X4.out.only 3 (.int .i64 (y.1 : Int))).mono tone_par))
  have U5 := Lib.hid (U4.out.trans ((X4.out.only 3 (.int .i64 (y.1 : Int))).mono tone_all))
  refine hK.out _ _ trivial (fun hHeld => ?_)
  clear hK K f
  refine wpAnyH_done (by kernel_rfl) ?_ _
  refine NoPanic.normal ?_
  go_end0
  exact ⟨rfl, I5.out, P5.out, U5.out⟩
set_option maxRecDepth 100000 in
set_option maxHeartbeats 1000000 in
theorem pkind_any {σ : Type} {C : Car σ} (H : C.Ok) {w : World} {g : Nat} {o : O} {u : Value} {s : σ} (I : C.inv w s) (X : Pb C.B w g o u) (hr : C.room s 1) :
    Calls Try.prog 114 #[.pointer (some ⟨g, 0, none⟩), C.v] w fun e w' => e = .returned (.tuple #[]) ∧ C.inv w' (C.num s o.pkind 1).2 ∧ Pb C.B w' g { o with pkind := (C.num s o.pkind 1).1 } u ∧ Only C.B tall w w' := by
  obtain ⟨n, hn⟩ : ∃ n : Nat, n = o.pkind := ⟨_, rfl⟩
  have b0 : n < 256 := by rw [hn]; have := X.fit.wf.pkind; omega
  have KN := Lib.hid (fun (W : World) (J : C.inv W s) => H.cn W s n 1 J hr (by decide) (by omega))
  have b1 : (C.num s n 1).1 < 256 := H.lt s n 1 (by omega)
  have CC := Lib.hid (fun (W : World) (Y : Pb C.B W g o u) => (show W.cell? ⟨g, 6, none⟩ = some (.int .u8 (n : Int)) by
    rw [Y.nine.2.2.2.2.2.2.1, hn]
    ))
  have c0 := CC.out w X
  rw [← hn]
  have w0 : IntKind.u64.wrap (n : Int) = (n : Int) := by rw [IntKind.wrap_u64]; omega
  have w1 : IntKind.u8.wrap ((C.num s n 1).1 : Int) = ((C.num s n 1).1 : Int) := by rw [IntKind.wrap_u8]; omega
  obtain ⟨fn, f1, f2, f3⟩ := H.en
  have F1 := Lib.hid f1; have F2 := Lib.hid f2; have F3 := Lib.hid f3; clear f1 f2 f3
  have XX := Lib.hid X; have II := Lib.hid I; have HH := Lib.hid H
  have FZ := Lib.hid (X.free 6)
  generalize hy : C.num s n 1 = y at *
  have HY := Lib.hid hy
  clear hn hr I X H hy
  go_enter Try.func114, Try.ntmps114
  refine wp_region_noPanic ?_
  refine wp_region_held_drew (S := fun _ => True) (by kernel_rfl) trivial (fun hHeld => ?_)
  refine wpAnyH_take (i := 0) (v := ?_) rfl (by kernel_rfl) (by kernel_rfl) (by kernel_rfl) (fun _ _ _ h => h) (Or.inl ⟨by rfl, ?_⟩) hHeld ?_
  rotate_left
  · (intro W hSw; go_simp; (try with_reducible rfl))
  simp only [List.getElem_toArray, List.getElem_cons_zero, Act.put, List.setIfInBounds_toArray, List.set_cons_zero, List.set_cons_succ]
  refine wpAnyH_take (i := 1) (v := ?_) rfl (by kernel_rfl) (by kernel_rfl) (by kernel_rfl) (fun _ _ _ h => h) (Or.inl ⟨by rfl, ?_⟩) hHeld ?_
  rotate_left
  · (intro W hSw; go_simp; (try with_reducible rfl))
  simp only [List.getElem_toArray, List.getElem_cons_succ, List.getElem_cons_zero, Act.put, List.setIfInBounds_toArray, List.set_cons_zero, List.set_cons_succ]
  refine wpAnyH_take (i := 2) (v := ?_) rfl (by kernel_rfl) (by kernel_rfl) (by kernel_rfl) (fun _ _ _ h => h) (Or.inl ⟨by rfl, ?_⟩) hHeld ?_
  rotate_left
  · (intro W hSw; go_simp; (try with_reducible rfl))
  simp only [List.getElem_toArray, List.getElem_cons_succ, List.getElem_cons_zero, Act.put, List.setIfInBounds_toArray, List.set_cons_zero, List.set_cons_succ]
  refine wpAnyH_take (i := 3) (v := ?_) rfl (by kernel_rfl) (by kernel_rfl) (by kernel_rfl) (fun _ _ _ h => h) (Or.inl ⟨by rfl, ?_⟩) hHeld ?_
  rotate_left
  · (intro W hSw; go_simp; (try with_reducible rfl))
  simp only [List.getElem_toArray, List.getElem_cons_succ, List.getElem_cons_zero, Act.put, List.setIfInBounds_toArray, List.set_cons_zero, List.set_cons_succ]
  refine wpAnyH_take (i := 4) (v := ?_) rfl (by kernel_rfl) (by kernel_rfl) (by kernel_rfl) (fun _ _ _ h => h) (Or.inl ⟨by rfl, ?_⟩) hHeld ?_
  rotate_left
  · (intro W hSw; go_simp; (try with_reducible rfl))
  simp only [List.getElem_toArray, List.getElem_cons_succ, List.getElem_cons_zero, Act.put, List.setIfInBounds_toArray, List.set_cons_zero, List.set_cons_succ]
  refine wpAnyH_take (i := 7) (v := ?_) rfl (by kernel_rfl) (by kernel_rfl) (by kernel_rfl) (fun _ _ _ h => h) (Or.inl ⟨by rfl, ?_⟩) hHeld ?_
  rotate_left
  · (intro W hSw; go_simp; (try with_reducible rfl))
  simp only [List.getElem_toArray, List.getElem_cons_succ, List.getElem_cons_zero, Act.put, List.setIfInBounds_toArray, List.set_cons_zero, List.set_cons_succ]
  refine wpAnyH_take (i := 8) (v := _) rfl (by kernel_rfl) (by kernel_rfl) (by kernel_rfl) (fun _ _ _ h => h) (Or.inl ⟨by rfl, fun W _ => run_nil rfl rfl (HH.out.nn W)⟩) hHeld ?_
  simp only [List.getElem_toArray, List.getElem_cons_succ, List.getElem_cons_zero, Act.put, List.setIfInBounds_toArray, List.set_cons_zero, List.set_cons_succ]
  refine wpAnyH_take (i := 9) (v := ?_) rfl (by kernel_rfl) (by kernel_rfl) (by kernel_rfl) (fun _ _ _ h => h) (Or.inl ⟨by rfl, ?_⟩) hHeld ?_
  rotate_left
  · (intro W hSw; go_simp; (try with_reducible rfl))
  simp only [List.getElem_toArray, List.getElem_cons_succ, List.getElem_cons_zero, Act.put, List.setIfInBounds_toArray, List.set_cons_zero, List.set_cons_succ]
  refine wpAnyH_ready (rs := [5]) (by kernel_rfl) (by simp) (AllReadyH.cons rfl (fun K hK => ?_) AllReadyH.nil)
  rw [if_pos (by rfl)]
  unfold Oper.wp execOp
  go_simp
  refine hK.out _ _ trivial (fun hHeld => ?_)
  clear hK K
  try simp only [List.getElem_toArray, List.getElem_cons_succ, List.getElem_cons_zero, Act.put, List.setIfInBounds_toArray, List.set_cons_zero, List.set_cons_succ]
  refine wpAnyH_take (i := 6) (v := ?_) rfl (by kernel_rfl) (by kernel_rfl) (by kernel_rfl) (fun _ _ _ h => h) (Or.inl ⟨by rfl, ?_⟩) hHeld ?_
  rotate_left
  · (intro W hSw; go_simp; (try with_reducible rfl))
  simp only [List.getElem_toArray, List.getElem_cons_succ, List.getElem_cons_zero, Act.put, List.setIfInBounds_toArray, List.set_cons_zero, List.set_cons_succ]
  refine wpAnyH_ready (rs := [10]) (by kernel_rfl) (by simp) (AllReadyH.cons rfl (fun K hK => ?_) AllReadyH.nil)
  refine step_inv (by rfl) (.tmp 13) "pentimento/op.number" [.tmp 10, .const (.int .i64 1)] #[38, 3] rfl C.t C.x (by rfl) C.fn (HH.out.mn _) fn F1.out F2.out F3.out (KN.out _ (HH.out.keep _ _ _ II.out (Only.refl _ _ _).drew)) (by rfl) ?_
  rintro e w4 ⟨rfl, i4, u4⟩
  refine ⟨_, rfl, ?_⟩
  have X4 := Lib.hid ((XX.out.later (Below.refl _ _).drew).car u4)
  have I4 := Lib.hid i4
  have U4 := Lib.hid ((Only.mono ((Only.refl _ _ _).drew.trans u4) tall_car : Only C.B tall w w4))
  have c4 := CC.out w4 X4.out; clear c0
  have z4 := X4.out.free 6
  refine hK.out _ _ trivial (fun hHeld => ?_)
  clear hK K
  simp only [List.getElem_toArray, List.getElem_cons_succ, List.getElem_cons_zero, Act.put, List.setIfInBounds_toArray, List.set_cons_zero, List.set_cons_succ]
  refine wpAnyH_take (i := 11) (v := ?_) rfl (by kernel_rfl) (by kernel_rfl) (by kernel_rfl) (fun _ _ _ h => h) (Or.inl ⟨by rfl, ?_⟩) hHeld ?_
  rotate_left
  · (intro W hSw; go_simp; (try with_reducible rfl))
  simp only [List.getElem_toArray, List.getElem_cons_succ, List.getElem_cons_zero, Act.put, List.setIfInBounds_toArray, List.set_cons_zero, List.set_cons_succ]
  refine wpAnyH_take (i := 12) (v := ?_) rfl (by kernel_rfl) (by kernel_rfl) (by kernel_rfl) (fun _ _ _ h => h) (Or.inl ⟨by rfl, ?_⟩) hHeld ?_
  rotate_left
  · (intro W hSw; go_simp; (try with_reducible rfl))
  simp only [List.getElem_toArray, List.getElem_cons_succ, List.getElem_cons_zero, Act.put, List.setIfInBounds_toArray, List.set_cons_zero, List.set_cons_succ]
  refine wpAnyH_take (i := 13) (v := ?_) rfl (by kernel_rfl) (by kernel_rfl) (by kernel_rfl) (fun _ _ _ h => h) (Or.inl ⟨by rfl, ?_⟩) hHeld ?_
  rotate_left
  · (intro W hSw; go_simp; (try with_reducible rfl))
  simp only [List.getElem_toArray, List.getElem_cons_succ, List.getElem_cons_zero, Act.put, List.setIfInBounds_toArray, List.set_cons_zero, List.set_cons_succ]
  refine wpAnyH_ready (rs := [14]) (by kernel_rfl) (by simp) (AllReadyH.cons rfl (fun K hK => ?_) AllReadyH.nil)
  rw [if_pos (by rfl)]
  unfold Oper.wp execOp
  go_simp
  have f := X4.out.fit
  have P5 := Lib.hid (X4.out.part 6 (.int .u8 (y.1 : Int)) (o' := { o with pkind := y.1 }) (u' := u) rfl ⟨⟨f.wf.kind, f.wf.page, b1, f.wf.level, f.wf.next⟩, f.a, f.f, f.text, f.len, f.each⟩ X4.out.rows)
  have I5 := Lib.hid (HH.out.keep _ _ _ I4.out ((X4.out.only 6 (.int .u8 (y.1 : Int))).mono tone_par))
  have U5 := Lib.hid (U4.out.trans ((X4.out.only 6 (.int .u8 (y.1 : Int))).mono tone_all))
  refine hK.out _ _ trivial (fun hHeld => ?_)
  clear hK K f
  refine wpAnyH_done (by kernel_rfl) ?_ _
  refine NoPanic.normal ?_
  go_end0
  exact ⟨rfl, I5.out, P5.out, U5.out⟩
set_option maxRecDepth 100000 in
set_option maxHeartbeats 1000000 in
theorem level_any {σ : Type} {C : Car σ} (H : C.Ok) {w : World} {g : Nat} {o : O} {u : Value} {s : σ} (I : C.inv w s) (X : Pb C.B w g o u) (hr : C.room s 1) :
    Calls Try.prog 115 #[.pointer (some ⟨g, 0, none⟩), C.v] w fun e w' => e = .returned (.tuple #[]) ∧ C.inv w' (C.num s o.level 1).2 ∧ Pb C.B w' g { o with level := (C.num s o.level 1).1 } u ∧ Only C.B tall w w' := by
  obtain ⟨n, hn⟩ : ∃ n : Nat, n = o.level := ⟨_, rfl⟩
  have b0 : n < 256 := by rw [hn]; have := X.fit.wf.level; omega
  have KN := Lib.hid (fun (W : World) (J : C.inv W s) => H.cn W s n 1 J hr (by decide) (by omega))
  have b1 : (C.num s n 1).1 < 256 := H.lt s n 1 (by omega)
  have CC := Lib.hid (fun (W : World) (Y : Pb C.B W g o u) => (show W.cell? ⟨g, 7, none⟩ = some (.int .u8 (n : Int)) by
    rw [Y.nine.2.2.2.2.2.2.2.1, hn]
    ))
  have c0 := CC.out w X
  rw [← hn]
  have w0 : IntKind.u64.wrap (n : Int) = (n : Int) := by rw [IntKind.wrap_u64]; omega
  have w1 : IntKind.u8.wrap ((C.num s n 1).1 : Int) = ((C.num s n 1).1 : Int) := by rw [IntKind.wrap_u8]; omega
  obtain ⟨fn, f1, f2, f3⟩ := H.en
  have F1 := Lib.hid f1; have F2 := Lib.hid f2; have F3 := Lib.hid f3; clear f1 f2 f3
  have XX := Lib.hid X; have II := Lib.hid I; have HH := Lib.hid H
  have FZ := Lib.hid (X.free 7)
  generalize hy : C.num s n 1 = y at *
  have HY := Lib.hid hy
  clear hn hr I X H hy
  go_enter Try.func115, Try.ntmps115
  refine wp_region_noPanic ?_
  refine wp_region_held_drew (S := fun _ => True) (by kernel_rfl) trivial (fun hHeld => ?_)
  refine wpAnyH_take (i := 0) (v := ?_) rfl (by kernel_rfl) (by kernel_rfl) (by kernel_rfl) (fun _ _ _ h => h) (Or.inl ⟨by rfl, ?_⟩) hHeld ?_
  rotate_left
  · (intro W hSw; go_simp; (try with_reducible rfl))
  simp only [List.getElem_toArray, List.getElem_cons_zero, Act.put, List.setIfInBounds_toArray, List.set_cons_zero, List.set_cons_succ]
  refine wpAnyH_take (i := 1) (v := ?_) rfl (by kernel_rfl) (by kernel_rfl) (by kernel_rfl) (fun _ _ _ h => h) (Or.inl ⟨by rfl, ?_⟩) hHeld ?_
  rotate_left
  · (intro W hSw; go_simp; (try with_reducible rfl))
  simp only [List.getElem_toArray, List.getElem_cons_succ, List.getElem_cons_zero, Act.put, List.setIfInBounds_toArray, List.set_cons_zero, List.set_cons_succ]
  refine wpAnyH_take (i := 2) (v := ?_) rfl (by kernel_rfl) (by kernel_rfl) (by kernel_rfl) (fun _ _ _ h => h) (Or.inl ⟨by rfl, ?_⟩) hHeld ?_
  rotate_left
  · (intro W hSw; go_simp; (try with_reducible rfl))
  simp only [List.getElem_toArray, List.getElem_cons_succ, List.getElem_cons_zero, Act.put, List.setIfInBounds_toArray, List.set_cons_zero, List.set_cons_succ]
  refine wpAnyH_take (i := 3) (v := ?_) rfl (by kernel_rfl) (by kernel_rfl) (by kernel_rfl) (fun _ _ _ h => h) (Or.inl ⟨by rfl, ?_⟩) hHeld ?_
  rotate_left
  · (intro W hSw; go_simp; (try with_reducible rfl))
  simp only [List.getElem_toArray, List.getElem_cons_succ, List.getElem_cons_zero, Act.put, List.setIfInBounds_toArray, List.set_cons_zero, List.set_cons_succ]
  refine wpAnyH_take (i := 4) (v := ?_) rfl (by kernel_rfl) (by kernel_rfl) (by kernel_rfl) (fun _ _ _ h => h) (Or.inl ⟨by rfl, ?_⟩) hHeld ?_
  rotate_left
  · (intro W hSw; go_simp; (try with_reducible rfl))
  simp only [List.getElem_toArray, List.getElem_cons_succ, List.getElem_cons_zero, Act.put, List.setIfInBounds_toArray, List.set_cons_zero, List.set_cons_succ]
  refine wpAnyH_take (i := 7) (v := ?_) rfl (by kernel_rfl) (by kernel_rfl) (by kernel_rfl) (fun _ _ _ h => h) (Or.inl ⟨by rfl, ?_⟩) hHeld ?_
  rotate_left
  · (intro W hSw; go_simp; (try with_reducible rfl))
  simp only [List.getElem_toArray, List.getElem_cons_succ, List.getElem_cons_zero, Act.put, List.setIfInBounds_toArray, List.set_cons_zero, List.set_cons_succ]
  refine wpAnyH_take (i := 8) (v := _) rfl (by kernel_rfl) (by kernel_rfl) (by kernel_rfl) (fun _ _ _ h => h) (Or.inl ⟨by rfl, fun W _ => run_nil rfl rfl (HH.out.nn W)⟩) hHeld ?_
  simp only [List.getElem_toArray, List.getElem_cons_succ, List.getElem_cons_zero, Act.put, List.setIfInBounds_toArray, List.set_cons_zero, List.set_cons_succ]
  refine wpAnyH_take (i := 9) (v := ?_) rfl (by kernel_rfl) (by kernel_rfl) (by kernel_rfl) (fun _ _ _ h => h) (Or.inl ⟨by rfl, ?_⟩) hHeld ?_
  rotate_left
  · (intro W hSw; go_simp; (try with_reducible rfl))
  simp only [List.getElem_toArray, List.getElem_cons_succ, List.getElem_cons_zero, Act.put, List.setIfInBounds_toArray, List.set_cons_zero, List.set_cons_succ]
  refine wpAnyH_ready (rs := [5]) (by kernel_rfl) (by simp) (AllReadyH.cons rfl (fun K hK => ?_) AllReadyH.nil)
  rw [if_pos (by rfl)]
  unfold Oper.wp execOp
  go_simp
  refine hK.out _ _ trivial (fun hHeld => ?_)
  clear hK K
  try simp only [List.getElem_toArray, List.getElem_cons_succ, List.getElem_cons_zero, Act.put, List.setIfInBounds_toArray, List.set_cons_zero, List.set_cons_succ]
  refine wpAnyH_take (i := 6) (v := ?_) rfl (by kernel_rfl) (by kernel_rfl) (by kernel_rfl) (fun _ _ _ h => h) (Or.inl ⟨by rfl, ?_⟩) hHeld ?_
  rotate_left
  · (intro W hSw; go_simp; (try with_reducible rfl))
  simp only [List.getElem_toArray, List.getElem_cons_succ, List.getElem_cons_zero, Act.put, List.setIfInBounds_toArray, List.set_cons_zero, List.set_cons_succ]
  refine wpAnyH_ready (rs := [10]) (by kernel_rfl) (by simp) (AllReadyH.cons rfl (fun K hK => ?_) AllReadyH.nil)
  refine step_inv (by rfl) (.tmp 13) "pentimento/op.number" [.tmp 10, .const (.int .i64 1)] #[38, 3] rfl C.t C.x (by rfl) C.fn (HH.out.mn _) fn F1.out F2.out F3.out (KN.out _ (HH.out.keep _ _ _ II.out (Only.refl _ _ _).drew)) (by rfl) ?_
  rintro e w4 ⟨rfl, i4, u4⟩
  refine ⟨_, rfl, ?_⟩
  have X4 := Lib.hid ((XX.out.later (Below.refl _ _).drew).car u4)
  have I4 := Lib.hid i4
  have U4 := Lib.hid ((Only.mono ((Only.refl _ _ _).drew.trans u4) tall_car : Only C.B tall w w4))
  have c4 := CC.out w4 X4.out; clear c0
  have z4 := X4.out.free 7
  refine hK.out _ _ trivial (fun hHeld => ?_)
  clear hK K
  simp only [List.getElem_toArray, List.getElem_cons_succ, List.getElem_cons_zero, Act.put, List.setIfInBounds_toArray, List.set_cons_zero, List.set_cons_succ]
  refine wpAnyH_take (i := 11) (v := ?_) rfl (by kernel_rfl) (by kernel_rfl) (by kernel_rfl) (fun _ _ _ h => h) (Or.inl ⟨by rfl, ?_⟩) hHeld ?_
  rotate_left
  · (intro W hSw; go_simp; (try with_reducible rfl))
  simp only [List.getElem_toArray, List.getElem_cons_succ, List.getElem_cons_zero, Act.put, List.setIfInBounds_toArray, List.set_cons_zero, List.set_cons_succ]
  refine wpAnyH_take (i := 12) (v := ?_) rfl (by kernel_rfl) (by kernel_rfl) (by kernel_rfl) (fun _ _ _ h => h) (Or.inl ⟨by rfl, ?_⟩) hHeld ?_
  rotate_left
  · (intro W hSw; go_simp; (try with_reducible rfl))
  simp only [List.getElem_toArray, List.getElem_cons_succ, List.getElem_cons_zero, Act.put, List.setIfInBounds_toArray, List.set_cons_zero, List.set_cons_succ]
  refine wpAnyH_take (i := 13) (v := ?_) rfl (by kernel_rfl) (by kernel_rfl) (by kernel_rfl) (fun _ _ _ h => h) (Or.inl ⟨by rfl, ?_⟩) hHeld ?_
  rotate_left
  · (intro W hSw; go_simp; (try with_reducible rfl))
  simp only [List.getElem_toArray, List.getElem_cons_succ, List.getElem_cons_zero, Act.put, List.setIfInBounds_toArray, List.set_cons_zero, List.set_cons_succ]
  refine wpAnyH_ready (rs := [14]) (by kernel_rfl) (by simp) (AllReadyH.cons rfl (fun K hK => ?_) AllReadyH.nil)
  rw [if_pos (by rfl)]
  unfold Oper.wp execOp
  go_simp
  have f := X4.out.fit
  have P5 := Lib.hid (X4.out.part 7 (.int .u8 (y.1 : Int)) (o' := { o with level := y.1 }) (u' := u) rfl ⟨⟨f.wf.kind, f.wf.page, f.wf.pkind, b1, f.wf.next⟩, f.a, f.f, f.text, f.len, f.each⟩ X4.out.rows)
  have I5 := Lib.hid (HH.out.keep _ _ _ I4.out ((X4.out.only 7 (.int .u8 (y.1 : Int))).mono tone_par))
  have U5 := Lib.hid (U4.out.trans ((X4.out.only 7 (.int .u8 (y.1 : Int))).mono tone_all))
  refine hK.out _ _ trivial (fun hHeld => ?_)
  clear hK K f
  refine wpAnyH_done (by kernel_rfl) ?_ _
  refine NoPanic.normal ?_
  go_end0
  exact ⟨rfl, I5.out, P5.out, U5.out⟩
set_option maxRecDepth 100000 in
set_option maxHeartbeats 1000000 in
theorem next_any {σ : Type} {C : Car σ} (H : C.Ok) {w : World} {g : Nat} {o : O} {u : Value} {s : σ} (I : C.inv w s) (X : Pb C.B w g o u) (hr : C.room s 4) :
    Calls Try.prog 116 #[.pointer (some ⟨g, 0, none⟩), C.v] w fun e w' => e = .returned (.tuple #[]) ∧ C.inv w' (C.num s o.next 4).2 ∧ Pb C.B w' g { o with next := (C.num s o.next 4).1 } u ∧ Only C.B tall w w' := by
  obtain ⟨n, hn⟩ : ∃ n : Nat, n = o.next := ⟨_, rfl⟩
  have b0 : n < 4294967296 := by rw [hn]; have := X.fit.wf.next; omega
  have KN := Lib.hid (fun (W : World) (J : C.inv W s) => H.cn W s n 4 J hr (by decide) (by omega))
  have b1 : (C.num s n 4).1 < 4294967296 := H.lt s n 4 (by omega)
  have CC := Lib.hid (fun (W : World) (Y : Pb C.B W g o u) => (show W.cell? ⟨g, 8, none⟩ = some (.int .u32 (n : Int)) by
    rw [Y.nine.2.2.2.2.2.2.2.2, hn]
    ))
  have c0 := CC.out w X
  rw [← hn]
  have w0 : IntKind.u64.wrap (n : Int) = (n : Int) := by rw [IntKind.wrap_u64]; omega
  have w1 : IntKind.u32.wrap ((C.num s n 4).1 : Int) = ((C.num s n 4).1 : Int) := by rw [IntKind.wrap_u32]; omega
  obtain ⟨fn, f1, f2, f3⟩ := H.en
  have F1 := Lib.hid f1; have F2 := Lib.hid f2; have F3 := Lib.hid f3; clear f1 f2 f3
  have XX := Lib.hid X; have II := Lib.hid I; have HH := Lib.hid H
  have FZ := Lib.hid (X.free 8)
  generalize hy : C.num s n 4 = y at *
  have HY := Lib.hid hy
  clear hn hr I X H hy
  go_enter Try.func116, Try.ntmps116
  refine wp_region_noPanic ?_
  refine wp_region_held_drew (S := fun _ => True) (by kernel_rfl) trivial (fun hHeld => ?_)
  refine wpAnyH_take (i := 0) (v := ?_) rfl (by kernel_rfl) (by kernel_rfl) (by kernel_rfl) (fun _ _ _ h => h) (Or.inl ⟨by rfl, ?_⟩) hHeld ?_
  rotate_left
  · (intro W hSw; go_simp; (try with_reducible rfl))
  simp only [List.getElem_toArray, List.getElem_cons_zero, Act.put, List.setIfInBounds_toArray, List.set_cons_zero, List.set_cons_succ]
  refine wpAnyH_take (i := 1) (v := ?_) rfl (by kernel_rfl) (by kernel_rfl) (by kernel_rfl) (fun _ _ _ h => h) (Or.inl ⟨by rfl, ?_⟩) hHeld ?_
  rotate_left
  · (intro W hSw; go_simp; (try with_reducible rfl))
  simp only [List.getElem_toArray, List.getElem_cons_succ, List.getElem_cons_zero, Act.put, List.setIfInBounds_toArray, List.set_cons_zero, List.set_cons_succ]
  refine wpAnyH_take (i := 2) (v := ?_) rfl (by kernel_rfl) (by kernel_rfl) (by kernel_rfl) (fun _ _ _ h => h) (Or.inl ⟨by rfl, ?_⟩) hHeld ?_
  rotate_left
  · (intro W hSw; go_simp; (try with_reducible rfl))
  simp only [List.getElem_toArray, List.getElem_cons_succ, List.getElem_cons_zero, Act.put, List.setIfInBounds_toArray, List.set_cons_zero, List.set_cons_succ]
  refine wpAnyH_take (i := 3) (v := ?_) rfl (by kernel_rfl) (by kernel_rfl) (by kernel_rfl) (fun _ _ _ h => h) (Or.inl ⟨by rfl, ?_⟩) hHeld ?_
  rotate_left
  · (intro W hSw; go_simp; (try with_reducible rfl))
  simp only [List.getElem_toArray, List.getElem_cons_succ, List.getElem_cons_zero, Act.put, List.setIfInBounds_toArray, List.set_cons_zero, List.set_cons_succ]
  refine wpAnyH_take (i := 4) (v := ?_) rfl (by kernel_rfl) (by kernel_rfl) (by kernel_rfl) (fun _ _ _ h => h) (Or.inl ⟨by rfl, ?_⟩) hHeld ?_
  rotate_left
  · (intro W hSw; go_simp; (try with_reducible rfl))
  simp only [List.getElem_toArray, List.getElem_cons_succ, List.getElem_cons_zero, Act.put, List.setIfInBounds_toArray, List.set_cons_zero, List.set_cons_succ]
  refine wpAnyH_take (i := 7) (v := ?_) rfl (by kernel_rfl) (by kernel_rfl) (by kernel_rfl) (fun _ _ _ h => h) (Or.inl ⟨by rfl, ?_⟩) hHeld ?_
  rotate_left
  · (intro W hSw; go_simp; (try with_reducible rfl))
  simp only [List.getElem_toArray, List.getElem_cons_succ, List.getElem_cons_zero, Act.put, List.setIfInBounds_toArray, List.set_cons_zero, List.set_cons_succ]
  refine wpAnyH_take (i := 8) (v := _) rfl (by kernel_rfl) (by kernel_rfl) (by kernel_rfl) (fun _ _ _ h => h) (Or.inl ⟨by rfl, fun W _ => run_nil rfl rfl (HH.out.nn W)⟩) hHeld ?_
  simp only [List.getElem_toArray, List.getElem_cons_succ, List.getElem_cons_zero, Act.put, List.setIfInBounds_toArray, List.set_cons_zero, List.set_cons_succ]
  refine wpAnyH_take (i := 9) (v := ?_) rfl (by kernel_rfl) (by kernel_rfl) (by kernel_rfl) (fun _ _ _ h => h) (Or.inl ⟨by rfl, ?_⟩) hHeld ?_
  rotate_left
  · (intro W hSw; go_simp; (try with_reducible rfl))
  simp only [List.getElem_toArray, List.getElem_cons_succ, List.getElem_cons_zero, Act.put, List.setIfInBounds_toArray, List.set_cons_zero, List.set_cons_succ]
  refine wpAnyH_ready (rs := [5]) (by kernel_rfl) (by simp) (AllReadyH.cons rfl (fun K hK => ?_) AllReadyH.nil)
  rw [if_pos (by rfl)]
  unfold Oper.wp execOp
  go_simp
  refine hK.out _ _ trivial (fun hHeld => ?_)
  clear hK K
  try simp only [List.getElem_toArray, List.getElem_cons_succ, List.getElem_cons_zero, Act.put, List.setIfInBounds_toArray, List.set_cons_zero, List.set_cons_succ]
  refine wpAnyH_take (i := 6) (v := ?_) rfl (by kernel_rfl) (by kernel_rfl) (by kernel_rfl) (fun _ _ _ h => h) (Or.inl ⟨by rfl, ?_⟩) hHeld ?_
  rotate_left
  · (intro W hSw; go_simp; (try with_reducible rfl))
  simp only [List.getElem_toArray, List.getElem_cons_succ, List.getElem_cons_zero, Act.put, List.setIfInBounds_toArray, List.set_cons_zero, List.set_cons_succ]
  refine wpAnyH_ready (rs := [10]) (by kernel_rfl) (by simp) (AllReadyH.cons rfl (fun K hK => ?_) AllReadyH.nil)
  refine step_inv (by rfl) (.tmp 13) "pentimento/op.number" [.tmp 10, .const (.int .i64 4)] #[38, 3] rfl C.t C.x (by rfl) C.fn (HH.out.mn _) fn F1.out F2.out F3.out (KN.out _ (HH.out.keep _ _ _ II.out (Only.refl _ _ _).drew)) (by rfl) ?_
  rintro e w4 ⟨rfl, i4, u4⟩
  refine ⟨_, rfl, ?_⟩
  have X4 := Lib.hid ((XX.out.later (Below.refl _ _).drew).car u4)
  have I4 := Lib.hid i4
  have U4 := Lib.hid ((Only.mono ((Only.refl _ _ _).drew.trans u4) tall_car : Only C.B tall w w4))
  have c4 := CC.out w4 X4.out; clear c0
  have z4 := X4.out.free 8
  refine hK.out _ _ trivial (fun hHeld => ?_)
  clear hK K
  simp only [List.getElem_toArray, List.getElem_cons_succ, List.getElem_cons_zero, Act.put, List.setIfInBounds_toArray, List.set_cons_zero, List.set_cons_succ]
  refine wpAnyH_take (i := 11) (v := ?_) rfl (by kernel_rfl) (by kernel_rfl) (by kernel_rfl) (fun _ _ _ h => h) (Or.inl ⟨by rfl, ?_⟩) hHeld ?_
  rotate_left
  · (intro W hSw; go_simp; (try with_reducible rfl))
  simp only [List.getElem_toArray, List.getElem_cons_succ, List.getElem_cons_zero, Act.put, List.setIfInBounds_toArray, List.set_cons_zero, List.set_cons_succ]
  refine wpAnyH_take (i := 12) (v := ?_) rfl (by kernel_rfl) (by kernel_rfl) (by kernel_rfl) (fun _ _ _ h => h) (Or.inl ⟨by rfl, ?_⟩) hHeld ?_
  rotate_left
  · (intro W hSw; go_simp; (try with_reducible rfl))
  simp only [List.getElem_toArray, List.getElem_cons_succ, List.getElem_cons_zero, Act.put, List.setIfInBounds_toArray, List.set_cons_zero, List.set_cons_succ]
  refine wpAnyH_take (i := 13) (v := ?_) rfl (by kernel_rfl) (by kernel_rfl) (by kernel_rfl) (fun _ _ _ h => h) (Or.inl ⟨by rfl, ?_⟩) hHeld ?_
  rotate_left
  · (intro W hSw; go_simp; (try with_reducible rfl))
  simp only [List.getElem_toArray, List.getElem_cons_succ, List.getElem_cons_zero, Act.put, List.setIfInBounds_toArray, List.set_cons_zero, List.set_cons_succ]
  refine wpAnyH_ready (rs := [14]) (by kernel_rfl) (by simp) (AllReadyH.cons rfl (fun K hK => ?_) AllReadyH.nil)
  rw [if_pos (by rfl)]
  unfold Oper.wp execOp
  go_simp
  have f := X4.out.fit
  have P5 := Lib.hid (X4.out.part 8 (.int .u32 (y.1 : Int)) (o' := { o with next := y.1 }) (u' := u) rfl ⟨⟨f.wf.kind, f.wf.page, f.wf.pkind, f.wf.level, b1⟩, f.a, f.f, f.text, f.len, f.each⟩ X4.out.rows)
  have I5 := Lib.hid (HH.out.keep _ _ _ I4.out ((X4.out.only 8 (.int .u32 (y.1 : Int))).mono tone_par))
  have U5 := Lib.hid (U4.out.trans ((X4.out.only 8 (.int .u32 (y.1 : Int))).mono tone_all))
  refine hK.out _ _ trivial (fun hHeld => ?_)
  clear hK K f
  refine wpAnyH_done (by kernel_rfl) ?_ _
  refine NoPanic.normal ?_
  go_end0
  exact ⟨rfl, I5.out, P5.out, U5.out⟩
set_option maxRecDepth 100000 in
set_option maxHeartbeats 1000000 in
theorem text_any {σ : Type} {C : Car σ} (H : C.Ok) {w : World} {g : Nat} {o : O} {u : Value} {s : σ} (I : C.inv w s) (X : Pb C.B w g o u) (hr : C.room s (2 + o.text.size)) :
    Calls Try.prog 118 #[.pointer (some ⟨g, 0, none⟩), C.v] w fun e w' => e = .returned (.tuple #[]) ∧ C.inv w' (C.txt s o.text).2 ∧ Pb C.B w' g { o with text := (C.txt s o.text).1 } u ∧ Only C.B tall w w' := by
  have KN := Lib.hid (fun (W : World) (J : C.inv W s) => H.ct W s o.text J hr X.fit.text)
  have b1 := Lib.hid (H.tl s o.text X.fit.text)
  have CC := Lib.hid (fun (W : World) (Y : Pb C.B W g o u) => Y.nine.2.2.2.2.1)
  have c0 := CC.out w X
  obtain ⟨fn, f1, f2, f3⟩ := H.et
  have F1 := Lib.hid f1; have F2 := Lib.hid f2; have F3 := Lib.hid f3; clear f1 f2 f3
  have XX := Lib.hid X; have II := Lib.hid I; have HH := Lib.hid H
  generalize hy : C.txt s o.text = y at *
  have HY := Lib.hid hy
  clear hr I X H hy
  go_enter Try.func118, Try.ntmps118
  refine wp_region_noPanic ?_
  refine wp_region_held_drew (S := fun _ => True) (by kernel_rfl) trivial (fun hHeld => ?_)
  refine wpAnyH_take (i := 0) (v := ?_) rfl (by kernel_rfl) (by kernel_rfl) (by kernel_rfl) (fun _ _ _ h => h) (Or.inl ⟨by rfl, ?_⟩) hHeld ?_
  rotate_left
  · (intro W hSw; go_simp; (try with_reducible rfl))
  simp only [List.getElem_toArray, List.getElem_cons_zero, Act.put, List.setIfInBounds_toArray, List.set_cons_zero, List.set_cons_succ]
  refine wpAnyH_take (i := 1) (v := ?_) rfl (by kernel_rfl) (by kernel_rfl) (by kernel_rfl) (fun _ _ _ h => h) (Or.inl ⟨by rfl, ?_⟩) hHeld ?_
  rotate_left
  · (intro W hSw; go_simp; (try with_reducible rfl))
  simp only [List.getElem_toArray, List.getElem_cons_succ, List.getElem_cons_zero, Act.put, List.setIfInBounds_toArray, List.set_cons_zero, List.set_cons_succ]
  refine wpAnyH_take (i := 2) (v := ?_) rfl (by kernel_rfl) (by kernel_rfl) (by kernel_rfl) (fun _ _ _ h => h) (Or.inl ⟨by rfl, ?_⟩) hHeld ?_
  rotate_left
  · (intro W hSw; go_simp; (try with_reducible rfl))
  simp only [List.getElem_toArray, List.getElem_cons_succ, List.getElem_cons_zero, Act.put, List.setIfInBounds_toArray, List.set_cons_zero, List.set_cons_succ]
  refine wpAnyH_take (i := 3) (v := ?_) rfl (by kernel_rfl) (by kernel_rfl) (by kernel_rfl) (fun _ _ _ h => h) (Or.inl ⟨by rfl, ?_⟩) hHeld ?_
  rotate_left
  · (intro W hSw; go_simp; (try with_reducible rfl))
  simp only [List.getElem_toArray, List.getElem_cons_succ, List.getElem_cons_zero, Act.put, List.setIfInBounds_toArray, List.set_cons_zero, List.set_cons_succ]
  refine wpAnyH_take (i := 4) (v := ?_) rfl (by kernel_rfl) (by kernel_rfl) (by kernel_rfl) (fun _ _ _ h => h) (Or.inl ⟨by rfl, ?_⟩) hHeld ?_
  rotate_left
  · (intro W hSw; go_simp; (try with_reducible rfl))
  simp only [List.getElem_toArray, List.getElem_cons_succ, List.getElem_cons_zero, Act.put, List.setIfInBounds_toArray, List.set_cons_zero, List.set_cons_succ]
  refine wpAnyH_take (i := 6) (v := ?_) rfl (by kernel_rfl) (by kernel_rfl) (by kernel_rfl) (fun _ _ _ h => h) (Or.inl ⟨by rfl, ?_⟩) hHeld ?_
  rotate_left
  · (intro W hSw; go_simp; (try with_reducible rfl))
  simp only [List.getElem_toArray, List.getElem_cons_succ, List.getElem_cons_zero, Act.put, List.setIfInBounds_toArray, List.set_cons_zero, List.set_cons_succ]
  refine wpAnyH_take (i := 7) (v := _) rfl (by kernel_rfl) (by kernel_rfl) (by kernel_rfl) (fun _ _ _ h => h) (Or.inl ⟨by rfl, fun W _ => run_nil rfl rfl (HH.out.nt W)⟩) hHeld ?_
  simp only [List.getElem_toArray, List.getElem_cons_succ, List.getElem_cons_zero, Act.put, List.setIfInBounds_toArray, List.set_cons_zero, List.set_cons_succ]
  refine wpAnyH_take (i := 8) (v := ?_) rfl (by kernel_rfl) (by kernel_rfl) (by kernel_rfl) (fun _ _ _ h => h) (Or.inl ⟨by rfl, ?_⟩) hHeld ?_
  rotate_left
  · (intro W hSw; go_simp; (try with_reducible rfl))
  simp only [List.getElem_toArray, List.getElem_cons_succ, List.getElem_cons_zero, Act.put, List.setIfInBounds_toArray, List.set_cons_zero, List.set_cons_succ]
  refine wpAnyH_ready (rs := [5]) (by kernel_rfl) (by simp) (AllReadyH.cons rfl (fun K hK => ?_) AllReadyH.nil)
  rw [if_pos (by rfl)]
  unfold Oper.wp execOp
  go_simp
  refine hK.out _ _ trivial (fun hHeld => ?_)
  clear hK K
  try simp only [List.getElem_toArray, List.getElem_cons_succ, List.getElem_cons_zero, Act.put, List.setIfInBounds_toArray, List.set_cons_zero, List.set_cons_succ]
  refine wpAnyH_ready (rs := [9]) (by kernel_rfl) (by simp) (AllReadyH.cons rfl (fun K hK => ?_) AllReadyH.nil)
  refine step_inv (by rfl) (.tmp 12) "pentimento/op.text" [.tmp 9] #[9] rfl C.t C.x (by rfl) C.ft (HH.out.mt _) fn F1.out F2.out F3.out (KN.out _ (HH.out.keep _ _ _ II.out (Only.refl _ _ _).drew)) (by rfl) ?_
  rintro e w4 ⟨rfl, i4, u4⟩
  refine ⟨_, rfl, ?_⟩
  have X4 := Lib.hid ((XX.out.later (Below.refl _ _).drew).car u4)
  have I4 := Lib.hid i4
  have U4 := Lib.hid ((Only.mono ((Only.refl _ _ _).drew.trans u4) tall_car : Only C.B tall w w4))
  have c4 := CC.out w4 X4.out; clear c0
  have z4 := X4.out.free 4
  refine hK.out _ _ trivial (fun hHeld => ?_)
  clear hK K
  simp only [List.getElem_toArray, List.getElem_cons_succ, List.getElem_cons_zero, Act.put, List.setIfInBounds_toArray, List.set_cons_zero, List.set_cons_succ]
  refine wpAnyH_take (i := 10) (v := ?_) rfl (by kernel_rfl) (by kernel_rfl) (by kernel_rfl) (fun _ _ _ h => h) (Or.inl ⟨by rfl, ?_⟩) hHeld ?_
  rotate_left
  · (intro W hSw; go_simp; (try with_reducible rfl))
  simp only [List.getElem_toArray, List.getElem_cons_succ, List.getElem_cons_zero, Act.put, List.setIfInBounds_toArray, List.set_cons_zero, List.set_cons_succ]
  refine wpAnyH_take (i := 11) (v := ?_) rfl (by kernel_rfl) (by kernel_rfl) (by kernel_rfl) (fun _ _ _ h => h) (Or.inl ⟨by rfl, ?_⟩) hHeld ?_
  rotate_left
  · (intro W hSw; go_simp; (try with_reducible rfl))
  simp only [List.getElem_toArray, List.getElem_cons_succ, List.getElem_cons_zero, Act.put, List.setIfInBounds_toArray, List.set_cons_zero, List.set_cons_succ]
  refine wpAnyH_ready (rs := [12]) (by kernel_rfl) (by simp) (AllReadyH.cons rfl (fun K hK => ?_) AllReadyH.nil)
  rw [if_pos (by rfl)]
  unfold Oper.wp execOp
  go_simp
  have f := X4.out.fit
  have P5 := Lib.hid (X4.out.part 4 (.string y.1) (o' := { o with text := y.1 }) (u' := u) rfl ⟨⟨f.wf.kind, f.wf.page, f.wf.pkind, f.wf.level, f.wf.next⟩, f.a, f.f, b1.out, f.len, f.each⟩ X4.out.rows)
  have I5 := Lib.hid (HH.out.keep _ _ _ I4.out ((X4.out.only 4 (.string y.1)).mono tone_par))
  have U5 := Lib.hid (U4.out.trans ((X4.out.only 4 (.string y.1)).mono tone_all))
  refine hK.out _ _ trivial (fun hHeld => ?_)
  clear hK K f
  refine wpAnyH_done (by kernel_rfl) ?_ _
  refine NoPanic.normal ?_
  go_end0
  exact ⟨rfl, I5.out, P5.out, U5.out⟩

end Go.Proofs.Ytfcibccipkokoaa.Op
