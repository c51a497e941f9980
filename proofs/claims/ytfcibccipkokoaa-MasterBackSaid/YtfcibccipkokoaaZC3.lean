/- Walks: a master is written. -/
import Derived.Test.YtfcibccipkokoaaZC2
import Derived.Test.YtfcibccipkokoaaU5
import Derived.Test.YtfcibccipkokoaaShelf
import Derived.Lib.BufSteps
namespace Go.Proofs.Ytfcibccipkokoaa.Mas
open Go.RowKit
attribute [local go_sem ↓] Go.wp_at_zero Go.wp_at_succ

theorem zero_char : (⟨#[(0 : UInt8)]⟩ : ByteArray).data.toList = [0] := rfl
theorem repeat_zero : ∀ n, Lib.repeatL [(0 : UInt8)] n = zerosL n
  | 0 => rfl
  | n + 1 => by rw [Lib.repeatL, repeat_zero n]; rfl
theorem zeros90 (w : World) :
    Calls Try.prog 70 #[.string ⟨#[0]⟩, .int .i64 90] w fun e w' => e = .returned (.string ⟨(zerosL 90).toArray⟩) ∧ Below w.heap.size w w' := by
  have h := Try.strings_Repeat ⟨#[0]⟩ 90 w (by omega) (by show 1 * 90 ≤ _; omega)
  rw [zero_char, repeat_zero] at h
  exact h

/-- the first numbers' bytes, behind the first byte -/
def headTo (k : Nat) (m : Ms) : List UInt8 := [1] ++ (if 0 < k then be 8 m.count else []) ++ (if 1 < k then be 8 m.life else []) ++ (if 2 < k then be 8 m.check else []) ++ (if 3 < k then be 8 m.first else [])
def fldM (k : Nat) (m : Ms) : Nat := if k = 0 then m.count else if k = 1 then m.life else if k = 2 then m.check else m.first
theorem headTo_succ (m : Ms) (k : Nat) (h : k < 4) : headTo (k + 1) m = headTo k m ++ be 8 (fldM k m) := by
  have e : k = 0 ∨ k = 1 ∨ k = 2 ∨ k = 3 := by omega
  rcases e with rfl | rfl | rfl | rfl <;> simp [headTo, fldM]
theorem headTo_len (m : Ms) (k : Nat) (h : k ≤ 4) : (headTo k m).length = 1 + 8 * k := by
  have e : k = 0 ∨ k = 1 ∨ k = 2 ∨ k = 3 ∨ k = 4 := by omega
  rcases e with rfl | rfl | rfl | rfl | rfl <;> simp [headTo, be_length]
theorem headTo_all (m : Ms) : headTo 4 m = headL m := by simp [headTo, headL]
theorem fld_wf {m : Ms} (h : m.wf) (k : Nat) : fldM k m < 18446744073709551616 := by
  unfold fldM
  split
  · exact h.count
  split
  · exact h.life
  split
  · exact h.check
  · exact h.first
theorem Mb.fld {w0 w : World} {g : Nat} {m : Ms} (h : Mb w0 w g m) (k : Nat) (hk : k < 4) : w.cell? ⟨g, k, none⟩ = some (.int .u64 (fldM k m : Int)) := by
  obtain ⟨a0, a1, a2, a3, _⟩ := h.five
  have e : k = 0 ∨ k = 1 ∨ k = 2 ∨ k = 3 := by omega
  rcases e with rfl | rfl | rfl | rfl
  · exact a0
  · exact a1
  · exact a2
  · exact a3

theorem infoByte : (Try.prog.info? 5).map (fun i => (i.zero, i.size, i.bytes)) = some (some (.int .u8 0), 1, 1) := by kernel_rfl

/-- the bytes so far, in a slice that the call has made since W0 -/
def Wr (W0 w : World) (v : Value) (l : List UInt8) : Prop := Lib.OwnBuf W0.heap.size 5 v l.length (Lib.byteCells l) W0 w
theorem Wr.later {W0 w w' : World} {v : Value} {l : List UInt8} (h : Wr W0 w v l) (b : Below w.heap.size w w') : Wr W0 w' v l := by
  obtain ⟨⟨h1, h2⟩, h3, h4⟩ := h
  refine ⟨⟨h1, ?_⟩, h3.trans (b.mono h4), Nat.le_trans h4 b.size⟩
  rcases h2 with h2 | ⟨g, cap, cur, fz, h2, hBg, hg, rest⟩
  · exact .inl h2
  · exact .inr ⟨g, cap, cur, fz, h2, hBg, (b.block g (Array.getElem?_eq_some_iff.1 hg).1).trans hg, rest⟩
theorem Wr.form {W0 w : World} {v : Value} {l : List UInt8} (h : Wr W0 w v l) : ∃ a c, v = .slice a l.length c := by
  rcases h.1.2 with ⟨rfl, h2⟩ | ⟨g, cap, cur, fz, h2, _⟩
  · exact ⟨none, 0, by rw [h2]⟩
  · exact ⟨_, _, h2⟩

theorem Wr.text {W0 w : World} {v : Value} {l t : List UInt8} (s : ByteArray) (e : l ++ s.data.toList = t) (h : Lib.OwnBuf W0.heap.size 5 v (l.length + s.size) (Lib.byteCells l ++ Lib.strCells s) W0 w) : Wr W0 w v t := by
  subst e
  have e1 : (l ++ s.data.toList).length = l.length + s.size := by rw [List.length_append]; rfl
  have e2 : Lib.byteCells (l ++ s.data.toList) = Lib.byteCells l ++ Lib.strCells s := by simp [Lib.byteCells, Lib.strCells]
  unfold Wr
  rw [e1, e2]
  exact h
theorem Wr.byte {W0 w : World} {v : Value} {l t : List UInt8} (c : UInt8) (e : l ++ [c] = t) (h : Lib.OwnBuf W0.heap.size 5 v (l.length + 1) (Lib.byteCells l ++ [.int .u8 (c.toNat : Int)]) W0 w) : Wr W0 w v t := by
  subst e
  have e1 : (l ++ [c]).length = l.length + 1 := by simp
  have e2 : Lib.byteCells (l ++ [c]) = Lib.byteCells l ++ [.int .u8 (c.toNat : Int)] := by simp [Lib.byteCells]
  unfold Wr
  rw [e1, e2]
  exact h
theorem Wr.out {W0 w : World} {a : Option Addr} {n c : Nat} {l : List UInt8} (h : Wr W0 w (.slice a n c) l) (h0 : l ≠ []) : (convert 41 9 (.slice a n c)).run Try.prog w = .ok (.string ⟨l.toArray⟩) w := by
  rcases h.1.2 with ⟨_, h2⟩ | ⟨g, cap, cur, fz, h2, hBg, hg, _, hn, _, hcs, htk⟩
  · exact absurd (List.eq_nil_of_length_eq_zero h2) h0
  · rw [h2]
    refine run_convert_bytes_back (P := Try.prog) w 41 9 5 ⟨g, 0, none⟩ cap l Try.underlying41 Try.underlying5 Try.underlying9 ?_
    intro j hj
    rw [Addr.add_mid, Nat.zero_add, cell_of_row w g j cur 5 fz hg]
    rw [Nat.mul_one] at htk
    have h1 : (cur.toList.take l.length)[j]? = (Lib.byteCells l)[j]? := by rw [htk]
    rw [List.getElem?_take, if_pos hj] at h1
    rw [← Array.getElem?_toList, h1]
    simp [Lib.byteCells, List.getElem?_eq_getElem hj]

set_option maxRecDepth 100000 in
set_option maxHeartbeats 4000000 in
theorem write_any (m : Ms) (w : World) (hm : m.wf) :
    Calls Try.prog 38 #[msV m] w fun e w' => e = .returned (.string ⟨(secL m).toArray⟩) ∧ Below w.heap.size w w' := by
  have T0 := Lib.hid (Mb.new m (Below.refl w.heap.size w))
  obtain ⟨i0, hi, hz0, hz1, hz2⟩ := info_parts infoByte
  have KN := Lib.hid (fun W => numbers_any w.heap.size W)
  have KP := Lib.hid (fun k W => put_at (fldM k m) W (fld_wf hm k))
  have KF := Lib.hid (fun W => flag_any m.clean W)
  have KZ := Lib.hid (fun W => zeros90 W)
  have KS := Lib.hid (fun W => Sum.seal_any ⟨(bodyL m).toArray⟩ W (by show (bodyL m).toArray.size ≤ _; rw [List.size_toArray, bodyL_len]; omega))
  have hmk := fun W => run_make (P := Try.prog) W 41 5 i0 (.int .u8 0) Try.underlying41 hi hz0 .i64 .i64 0 128 (by omega) (by omega) (by rw [hz2]; omega) (by omega)
  have e4 : (128 : Int).toNat = 128 := rfl
  simp only [hz1, e4, Nat.mul_one, Int.toNat_zero] at hmk
  have BL : bodyL m = headL m ++ [flag m.clean] ++ zerosL 90 := rfl
  have hcl : (bodyL m).length = 124 := bodyL_len m
  have I : ∀ (g k : Nat) (W : World), k < 4 → (Instr.index 119 (.agg (fourC g)) (.int .i64 (k : Int))).run Try.prog W = .ok (.pointer (some ⟨g, k, none⟩)) W := fun g k W hk => by
    have e : k = 0 ∨ k = 1 ∨ k = 2 ∨ k = 3 := by omega
    rcases e with rfl | rfl | rfl | rfl <;> rfl
  have IX := Lib.hid I
  have MM := Lib.hid hmk
  clear I hmk hm hcl BL
  unfold msV
  generalize hC : msC m = C at *
  unfold msC at hC
  subst hC
  go_enter Try.func38, Try.ntmps38
  go_upto_region 1 with fail
  have W0 := Lib.hid (show (w.alloc (.cells (msC m) 40)).heap.size = w.heap.size + 1 from by simp)
  unfold msC at W0
  generalize hB : w.alloc (.cells #[.int .u64 (m.count : Int), .int .u64 (m.life : Int), .int .u64 (m.check : Int), .int .u64 (m.first : Int), .bool m.clean] 40) = Wb at *
  have mm := MM.out Wb
  clear MM
  have Z0 : Hid (Wr Wb (Wb.alloc (.cells (madeCells #[Value.int IntKind.u8 0] 128) 5)) (.slice (some ⟨Wb.heap.size, 0, none⟩) 0 128) []) := Lib.hid ⟨World.ownsRowF_of (World.ownsRow_made Wb (madeCells #[Value.int IntKind.u8 0] 128) (e := 5) (size := 1) (base := Wb.heap.size) 128 (Nat.le_refl _) (by unfold maxLen; omega) (by rw [size_madeCells, Nat.mul_one])), below_new _ _, (below_new _ _).size⟩
  clear hB
  unfold Wr at Z0
  go_wp2_with (at_builtin; refine Lib.wpList_append_byte rfl (.tmp 10) (.tmp 11) 41 rfl Wb.heap.size 5 i0 Try.underlying41 hi hz0 hz1 hz2 (.slice (some ⟨Wb.heap.size, 0, none⟩) 0 128) _ _ rfl Wb _ 1 Z0.out (by simp [Act.eval]) (by simp) ?_)
  intro v1 w1 z1
  have Z1 := Lib.hid (show Wr Wb w1 v1 (headTo 0 m) from z1)
  clear Z0 z1 mm
  obtain ⟨a1, c1, hv1⟩ := Z1.out.form
  simp only [headTo_len m 0 (by omega)] at hv1
  subst hv1
  go_wp2_with fail
  refine (KN.out _).mono ?_
  rintro e w2 ⟨rfl, b2⟩
  have Z2 := Lib.hid (Z1.out.later b2)
  clear Z1 b2 KN
  have IY := Lib.hid (fun (k : Nat) (W : World) (hk : k < 4) => IX.out w.heap.size k W hk)
  clear IX
  generalize fourC w.heap.size = F at *
  have GW := Lib.hid (show ∀ x, x = w.heap.size → x ≤ Wb.heap.size from fun x hx => by rw [hx, W0.out]; omega)
  have GX := Lib.hid (fun (W : World) (b : Below Wb.heap.size Wb W) => T0.out.below.trans (b.mono (GW.out _ rfl)))
  clear W0 GW
  obtain ⟨g, hg⟩ : ∃ g, g = w.heap.size := ⟨_, rfl⟩
  rw [← hg] at T0 IY ⊢
  clear hg
  go_wp2_with fail
  go_loopw [3, 14] (fun v i wr => ∃ (k : Nat) (x : Int) (a : Option Addr) (n c : Nat), k ≤ 4 ∧ x = (k : Int) ∧ i = .int .i64 x ∧ v = .slice a n c ∧ n = 1 + 8 * k ∧ Wr Wb wr v (headTo k m)) (fun _ i _ => 4 - (intOf i).toNat)
  case atStart => exact ⟨0, 0, a1, 1, c1, by omega, rfl, rfl, rfl, rfl, Z2.out⟩
  case round =>
    obtain ⟨k, x, a, n, c, hk, hx, rfl, rfl, hn, hz⟩ := hrel
    have Z3 := Lib.hid hz
    clear hz Z2
    by_cases hlt : k < 4
    · have f0 := ((T0.out.later Z3.out.2.1).fld k hlt)
      have i0 := fun W => IY.out k W hlt
      subst hx
      have e1 : decide ((k : Int) < 4) = true := decide_eq_true (by omega)
      have hN := Lib.hid hn
      have hL := headTo_len m k (by omega)
      rw [← hn] at hL
      have HL := Lib.hid hL
      clear hn hL
      go_wp2_with fail
      refine (KP.out k _).mono ?_
      rintro e w3 ⟨rfl, b3⟩
      have Z4 := Lib.hid (Z3.out.later b3)
      clear Z3 b3 f0 i0
      unfold Wr at Z4
      have Z5 : Hid (Lib.OwnBuf Wb.heap.size 5 (.slice a n c) n (Lib.byteCells (headTo k m)) Wb w3) := Lib.hid (by have := Z4.out; rw [HL.out] at this; exact this)
      clear Z4
      have hsz : (Rec.nb 8 (fldM k m)).size = 8 := Rec.nb_size _ _
      have HS := Lib.hid hsz
      clear hsz
      go_wp2_with (at_builtin; refine Lib.wpList_append_text rfl (.tmp 24) (.tmp 25) 41 9 rfl Wb.heap.size 5 _ Try.underlying41 Try.underlying9 hi hz0 hz1 hz2 (.slice a n c) n _ rfl Wb Z5.out (Rec.nb 8 (fldM k m)) rfl ?c1 ?_)
      case c1 => rw [HS.out, hN.out]; omega
      intro v' w4 z6
      have Z6 : Hid (Wr Wb w4 v' (headTo (k + 1) m)) := Lib.hid (Wr.text (Rec.nb 8 (fldM k m)) (headTo_succ m k hlt).symm (by rw [HL.out]; exact z6))
      clear z6 Z5
      obtain ⟨a2, c2, hv2⟩ := Z6.out.form
      obtain ⟨n2, hn2⟩ : ∃ n2, n2 = (headTo (k + 1) m).length := ⟨_, rfl⟩
      rw [← hn2] at hv2
      have HN2 := Lib.hid (show n2 = 1 + 8 * (k + 1) by rw [hn2, headTo_len m (k + 1) (by omega)])
      clear hn2
      subst hv2
      go_wp2_with fail
      go_roundw
      case rel => exact ⟨k + 1, _, a2, n2, c2, by omega, by omega, rfl, rfl, HN2.out, Z6.out⟩
      case measure => simp [intOf]; omega
    · obtain rfl : k = 4 := by omega
      obtain rfl : x = 4 := by omega
      obtain rfl : n = 33 := by omega
      clear hx hn hk hlt
      have Z4 : Hid (Wr Wb wr (.slice a 33 c) (headL m)) := Lib.hid (by rw [← headTo_all]; exact Z3.out)
      have f0 := (T0.out.later Z3.out.2.1).five.2.2.2.2
      clear Z3 KP IY
      unfold Wr at Z4
      have Z5 : Hid (Lib.OwnBuf Wb.heap.size 5 (.slice a 33 c) 33 (Lib.byteCells (headL m)) Wb wr) := Lib.hid (by have := Z4.out; rw [headL_len m] at this; exact this)
      clear Z4
      go_wp2_with fail
      refine (KF.out _).mono ?_
      rintro e w3 ⟨rfl, rfl⟩
      go_wp2_with (at_builtin; refine Lib.wpList_append_byte rfl (.tmp 28) (.tmp 32) 41 rfl Wb.heap.size 5 i0 Try.underlying41 hi hz0 hz1 hz2 (.slice a 33 c) _ _ rfl Wb _ _ Z5.out (by simp [Act.eval]) (by simp) ?_)
      intro v' w4 z6
      have Z6 : Hid (Wr Wb w4 v' (headL m ++ [flag m.clean])) := Lib.hid (Wr.byte (flag m.clean) rfl (by rw [headL_len m]; exact z6))
      clear z6 Z5 f0
      obtain ⟨a2, c2, hv2⟩ := Z6.out.form
      have hl34 : (headL m ++ [flag m.clean]).length = 34 := by rw [List.length_append, headL_len m]; rfl
      rw [hl34] at hv2
      subst hv2
      have hne : headL m ++ [flag m.clean] ≠ [] := by simp
      have O6 := Lib.hid (fun (W : World) (b : Below w4.heap.size w4 W) => (Z6.out.later b).out hne)
      have o6 := Z6.out.out hne
      have B6 := Lib.hid Z6.out.2.1
      have B66 := Lib.hid Z6.out.2.2
      have EL := Lib.hid (show headL m ++ [flag m.clean] ++ zerosL 90 = bodyL m from rfl)
      have LB := Lib.hid (bodyL_len m)
      generalize headL m ++ [flag m.clean] = H at *
      have HL := Lib.hid hl34
      clear hl34 hne Z6 KF o6 T0
      obtain ⟨S1, hS1⟩ : ∃ S : ByteArray, S = ⟨H.toArray⟩ := ⟨_, rfl⟩
      obtain ⟨S2, hS2⟩ : ∃ S : ByteArray, S = ⟨(zerosL 90).toArray⟩ := ⟨_, rfl⟩
      have hb : (⟨(bodyL m).toArray⟩ : ByteArray) = S1 ++ S2 := by
        rw [hS1, hS2, ← EL.out]
        apply ByteArray.ext
        apply Array.toList_inj.1
        rw [Rec.app_list]
      have z1 : S1.size = 34 := by rw [hS1]; show H.toArray.size = 34; rw [List.size_toArray, HL.out]
      have z2 : S2.size = 90 := by rw [hS2]; show (zerosL 90).toArray.size = 90; rw [List.size_toArray, zerosL_len]
      rw [hb] at KS
      rw [← hS1] at O6
      rw [← hS2] at KZ
      have s1 : (9223372036854775807 < S1.size + S2.size) = False := by simp only [eq_iff_iff, iff_false]; omega
      clear hS1 hS2 z1 z2 hb EL LB HL
      go_wp2_with fail
      have Y0 := Lib.hid ((Below.refl w4.heap.size w4).drew)
      go_region_held3 (fun w' => (convert 41 9 (.slice a2 34 c2)).run Try.prog w' = .ok (.string S1) w') (first | exact O6.out _ Y0.out | exact O6.out _ Y1 | exact O6.out _ Y2)
        (first
          | (go_at_call 70; refine (KZ.out _).mono ?_; rintro e w5 ⟨rfl, b5⟩; have Y1 := Y0.out.trans (b5.mono Y0.out.size); clear b5)
          | (go_at_call 69; refine (KS.out _).mono ?_; rintro e w6 ⟨rfl, b6⟩; have Y2 := Y1.trans (b6.mono Y1.size); clear b6))
      have Y3 := Lib.hid Y2
      clear Y1 Y2 O6
      go_wp2_with fail
      go_ret
      exact ⟨rfl, GX.out _ (B6.out.trans (Y3.out.mono B66.out))⟩

end Go.Proofs.Ytfcibccipkokoaa.Mas
