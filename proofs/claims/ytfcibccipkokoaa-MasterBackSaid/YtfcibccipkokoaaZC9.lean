/- Walks: Load and Store on a disk. -/
import Derived.Test.YtfcibccipkokoaaZC8
import Derived.Test.YtfcibccipkokoaaDA
namespace Go.Proofs.Ytfcibccipkokoaa.Mas
open Go.RowKit
open Go.Proofs.Ytfcibccipkokoaa.Disk (D Rep grew now burnt)
attribute [local go_sem ↓] Go.wp_at_zero Go.wp_at_succ

def nowB (d : D) (k : Nat) : ByteArray := ⟨(now d k).toArray⟩
theorem nowB_size {d : D} (h : d.ok) {k : Nat} (hk : k < d.sure.length) : (nowB d k).size = 128 := by
  show (now d k).toArray.size = 128
  rw [List.size_toArray, Disk.now_len h hk]

theorem load_nil (n : Nat) (w : World) (hn : n ≤ 1000000) :
    Calls Try.prog 22 #[.pointer none, .int .i64 (n : Int)] w fun e w' => e = .returned (.tuple #[msV Ms.zero, .int .i64 1]) ∧ Below w.heap.size w w' :=
  load_no _ n w 1 (by decide) fun W _ => sectors_any _ n W noB noB 1 1 (by omega) (fun W' _ => Disk.read_nil W' _) (fun W' _ => Disk.read_nil W' _)
theorem load_down {w : World} {p : Nat} {d : D} {F : Nat → Prop} (h : Rep w p d F) (hf : d.fuse = 0) (n : Nat) (hn : n ≤ 1000000) :
    Calls Try.prog 22 #[.pointer (some ⟨p, 0, none⟩), .int .i64 (n : Int)] w fun e w' => e = .returned (.tuple #[msV Ms.zero, .int .i64 40]) ∧ Below w.heap.size w w' :=
  load_no _ n w 40 (by decide) fun W b => sectors_any _ n W noB noB 40 40 (by omega) (fun W' b' => Disk.read_down ((h.later b).later b') hf _) (fun W' b' => Disk.read_down ((h.later b).later b') hf _)
theorem load_arg {w : World} {p : Nat} {d : D} {F : Nat → Prop} (h : Rep w p d F) (hf : d.fuse ≠ 0) (n : Nat) (hn : n ≤ 1000000) (hr : d.sure.length ≤ n + 1) :
    Calls Try.prog 22 #[.pointer (some ⟨p, 0, none⟩), .int .i64 (n : Int)] w fun e w' => e = .returned (.tuple #[msV Ms.zero, .int .i64 2]) ∧ Below w.heap.size w w' := by
  by_cases h0 : n < d.sure.length
  · exact load_no _ n w 2 (by decide) fun W b => sectors_any _ n W (nowB d n) noB 0 2 (by omega) (fun W' b' => Disk.read_any ((h.later b).later b') hf h0) (fun W' b' => Disk.read_arg ((h.later b).later b') hf _ (decide_eq_false (by omega)))
  · exact load_no _ n w 2 (by decide) fun W b => sectors_any _ n W noB noB 2 2 (by omega) (fun W' b' => Disk.read_arg ((h.later b).later b') hf _ (decide_eq_false (by omega))) (fun W' b' => Disk.read_arg ((h.later b).later b') hf _ (decide_eq_false (by omega)))
theorem load_any {w : World} {p : Nat} {d : D} {F : Nat → Prop} (h : Rep w p d F) (hf : d.fuse ≠ 0) (n : Nat) (hr : n + 1 < d.sure.length) :
    Calls Try.prog 22 #[.pointer (some ⟨p, 0, none⟩), .int .i64 (n : Int)] w (LoadP (nowB d n) (nowB d (n + 1)) w) := by
  have hm := h.ok.most
  exact load_yes _ n w _ _ (by rw [nowB_size h.ok (by omega)]; omega) (by rw [nowB_size h.ok hr]; omega) fun W b => sectors_any _ n W (nowB d n) (nowB d (n + 1)) 0 0 (by omega) (fun W' b' => Disk.read_any ((h.later b).later b') hf (by omega)) (fun W' b' => Disk.read_any ((h.later b).later b') hf hr)

/-! ### Store -/
set_option maxRecDepth 100000 in
set_option maxHeartbeats 1000000 in
theorem store_nil (m : Ms) (n : Int) (w : World) :
    Calls Try.prog 24 #[.pointer none, .int .i64 n, msV m] w fun e w' => e = .returned (.int .i64 1) ∧ Below w.heap.size w w' := by
  have B := Lib.hid (below_new w (.cells (msC m) 40))
  have K := Lib.hid (fun W => Disk.len_nil W)
  unfold msV
  generalize hC : msC m = C at *
  unfold msC at hC
  subst hC
  go_enter Try.func24, Try.ntmps24
  go_wp2_with fail
  refine (K.out _).mono ?_
  rintro e w1 ⟨rfl, rfl⟩
  go_wp2_with fail
  go_ret
  exact ⟨rfl, B.out⟩

set_option maxRecDepth 100000 in
set_option maxHeartbeats 1000000 in
theorem store_bad {w : World} {p : Nat} {d : D} {F : Nat → Prop} (h : Rep w p d F) (m : Ms) (n : Int) (hw : m.wf) (hm : okM m = false) :
    Calls Try.prog 24 #[.pointer (some ⟨p, 0, none⟩), .int .i64 n, msV m] w fun e w' => e = .returned (.int .i64 2) ∧ Below w.heap.size w w' := by
  have T0 := Lib.hid (Mb.new m (Below.refl w.heap.size w))
  have K := Lib.hid (Disk.len_any (h.later (below_new w (.cells (msC m) 40))))
  have KE := Lib.hid (fun W => encode_any m W hw)
  rw [encE_no hm] at KE
  have e1 : ((d.sure.length : Int) == 0) = false := by have := h.ok.one; rw [beq_eq_false_iff_ne]; omega
  obtain ⟨a0, a1, a2, a3, a4⟩ := T0.out.five
  clear hm hw h
  unfold msV at *
  generalize hC : msC m = C at *
  unfold msC at hC
  subst hC
  go_enter Try.func24, Try.ntmps24
  go_wp2_with fail
  refine K.out.mono ?_
  rintro e w1 ⟨rfl, rfl⟩
  go_wp2_with fail
  refine (KE.out _).mono ?_
  rintro e w2 ⟨rfl, b2⟩
  have B := Lib.hid (T0.out.later b2).below
  clear b2 T0 K KE a0 a1 a2 a3 a4
  go_wp2_with fail
  go_ret
  exact ⟨rfl, B.out⟩

/-- what a disk is once a master's sector was stored, and the error -/
def storeD (d : D) (k : Nat) (t : List UInt8) : D := if d.fuse = 0 then d else if burnt d.fuse = 0 then d.write k t else (d.write k t).sync
def storeE (d : D) : Int := if d.fuse = 0 then 40 else if burnt d.fuse = 0 then 40 else 0
def StoreP (p : Nat) (d : D) (F : Nat → Prop) (k : Nat) (t : List UInt8) (w : World) (e : Ending) (w' : World) : Prop :=
  e = .returned (.int .i64 (storeE d)) ∧ (Rep w' p (storeD d k t) (grew F w w') ∧ Disk.Touch F w w')

set_option maxRecDepth 100000 in
set_option maxHeartbeats 1000000 in
theorem store_any {w : World} {p : Nat} {d : D} {F : Nat → Prop} (h : Rep w p d F) (m : Ms) (n : Nat) (hw : m.wf) (hm : okM m = true) (hk : n + m.count % 2 < d.sure.length) (hl : d.loose.length ≤ 1000000) :
    Calls Try.prog 24 #[.pointer (some ⟨p, 0, none⟩), .int .i64 (n : Int), msV m] w (StoreP p d F (n + m.count % 2) (encL m) w) := by
  have T0 := Lib.hid (Mb.new m (Below.refl w.heap.size w))
  have HR := Lib.hid h
  have K := Lib.hid (Disk.len_any (h.later (below_new w (.cells (msC m) 40))))
  have KE := Lib.hid (fun W => encode_any m W hw)
  have KT := Lib.hid (fun W => turn_any m W hw)
  rw [encE_yes hm] at KE
  have e1 : ((d.sure.length : Int) == 0) = false := by have := h.ok.one; rw [beq_eq_false_iff_ne]; omega
  have hs := encB_size hm
  have hkm := h.ok.most
  have w1 : IntKind.i64.wrap ((n : Int) + ((m.count % 2 : Nat) : Int)) = (n : Int) + ((m.count % 2 : Nat) : Int) := by rw [IntKind.wrap_i64]; omega
  have KW := Lib.hid (fun (W : World) (hr : Rep W p d F) (hf : d.fuse ≠ 0) => show Calls Try.prog 21 #[.pointer (some ⟨p, 0, none⟩), .int .i64 ((n : Int) + ((m.count % 2 : Nat) : Int)), .string (encB m)] W fun e w' => e = .returned (.int .i64 0) ∧ (Rep w' p (d.write (n + m.count % 2) (encB m).data.toList) (grew F W w') ∧ Disk.Touch F W w') from by rw [← Int.natCast_add]; exact Disk.write_any hr hf hk (encB m) hs (by omega))
  have KD := Lib.hid (fun (W : World) (hr : Rep W p d F) (hf : d.fuse = 0) => Disk.write_down hr hf ((n : Int) + ((m.count % 2 : Nat) : Int)) (encB m))
  rw [encB_list] at KW
  obtain ⟨a0, a1, a2, a3, a4⟩ := T0.out.five
  have HL := Lib.hid hl
  clear hm hw h hs hkm hk hl
  unfold msV at *
  generalize hC : msC m = C at *
  unfold msC at hC
  subst hC
  generalize m.count % 2 = z at *
  go_enter Try.func24, Try.ntmps24
  go_wp2_with fail
  refine K.out.mono ?_
  rintro e w1 ⟨rfl, rfl⟩
  go_wp2_with fail
  refine (KE.out _).mono ?_
  rintro e w2 ⟨rfl, b2⟩
  have T2 := Lib.hid (T0.out.later b2)
  clear b2 T0 K KE a0 a1 a2 a3 a4
  obtain ⟨a0, a1, a2, a3, a4⟩ := T2.out.five
  go_wp2_with fail
  refine (KT.out _).mono ?_
  rintro e w3 ⟨rfl, b3⟩
  have T3 := Lib.hid (T2.out.later b3).below
  clear b3 T2 KT a0 a1 a2 a3 a4
  go_wp2_with fail
  have R3 := Lib.hid (HR.out.later T3.out)
  have P := Lib.hid (show ∀ e W, e = storeE d → (Rep W p (storeD d (n + z) (encL m)) (grew F w W) ∧ Disk.Touch F w W) → StoreP p d F (n + z) (encL m) w (.returned (.int .i64 e)) W from fun e W he hr => ⟨by rw [he], hr⟩)
  by_cases hf : d.fuse = 0
  · have C := Lib.hid (KD.out _ R3.out hf)
    have E := Lib.hid (P.out 40 w3 (by unfold storeE; rw [if_pos hf]) ⟨by unfold storeD; rw [if_pos hf]; exact R3.out.grown w, Disk.Touch.ofNew T3.out⟩)
    clear hf KW KD R3 P HR T3
    refine C.out.mono ?_
    rintro e w4 ⟨rfl, rfl⟩
    go_wp2_with fail
    go_ret
    exact E.out
  · have C := Lib.hid (KW.out _ R3.out hf)
    have HF := Lib.hid hf
    clear hf KW KD
    refine C.out.mono ?_
    rintro e w4 ⟨rfl, r4, t4⟩
    have R4 := Lib.hid r4
    have T4 := Lib.hid ((Disk.Touch.ofNew (F := F) T3.out).trans' t4)
    have G := Lib.hid (show ∀ x, grew F w3 w4 x → grew F w w4 x from fun x hx => by
      have := T3.out.size
      rcases hx with hx | hx
      · exact .inl hx
      · exact .inr ⟨by omega, hx.2⟩)
    clear r4 t4 C
    by_cases hg : burnt d.fuse = 0
    · have C := Lib.hid (Disk.sync_down R4.out (show (d.write (n + z) (encL m)).fuse = 0 from hg))
      have E := Lib.hid (P.out 40 w4 (by unfold storeE; rw [if_neg HF.out, if_pos hg]) ⟨by unfold storeD; rw [if_neg HF.out, if_pos hg]; exact R4.out.mono G.out (Disk.grew_lt HR.out.below T4.out.size), T4.out⟩)
      clear hg P HR T3 R4 T4 G HF R3
      go_wp2_with fail
      refine C.out.mono ?_
      rintro e w5 ⟨rfl, rfl⟩
      go_wp2_with fail
      go_ret
      exact E.out
    · have C := Lib.hid (Disk.sync_any R4.out (show (d.write (n + z) (encL m)).fuse ≠ 0 from hg) (by show (d.loose ++ [_]).length ≤ _; have := HL.out; rw [List.length_append]; simp; omega))
      have HG := Lib.hid hg
      clear hg
      go_wp2_with fail
      refine C.out.mono ?_
      rintro e w5 ⟨rfl, r5, t5⟩
      have E := Lib.hid (P.out 0 w5 (by unfold storeE; rw [if_neg HF.out, if_neg HG.out]) ⟨by
        unfold storeD; rw [if_neg HF.out, if_neg HG.out]
        exact r5.mono (fun x hx => by
          have := t5.size
          rcases G.out x hx with h1 | h1
          · exact .inl h1
          · exact .inr ⟨h1.1, by omega⟩) (Disk.grew_lt HR.out.below (Nat.le_trans T4.out.size t5.size)), T4.out.step (t5.mono G.out)⟩)
      clear r5 t5 C HG P HR T3 R4 T4 G HF R3
      go_wp2_with fail
      go_ret
      exact E.out

end Go.Proofs.Ytfcibccipkokoaa.Mas
