/- The walk of DiskKeeps. -/
import Derived.Test.YtnlkadacbpecmaaKM
import Derived.Deep.DeepCutAuto
import Derived.Deep.CutBlock
import Derived.StillTailTactics
import Derived.Outline
namespace Go.Proofs.Ytnlkadacbpecmaa.Disk
open Go.RowKit
attribute [local go_sem ↓] Go.wp_at_zero Go.wp_at_succ

theorem infoSl : (Try.prog.info? 49).map (fun i => (i.zero, i.size, i.bytes)) = some (some (.slice none 0 0), 1, 24) := by kernel_rfl

/-- the outer list, so far -/
def OutS (w1 : World) (p gS : Nat) (d : D) (k : Nat) (v : Value) (wr : World) : Prop :=
  Own w1 wr (fun b => b = gS ∨ v.ownBlock = some b) [(p, d)] ∧ wr.heap[gS]? = some (.cells #[.int .u8 0, .int .u8 0, .int .u8 0, .int .u8 0] 5 (0, 0)) ∧ wr.ownsRow 0 49 1 v k (List.replicate k (.slice none 0 0))

/-- what stands between the calls -/
def KeepS (w1 : World) (p gS gO cO n : Nat) (wr : World) : Prop :=
  ∃ d sure iv since, Own w1 wr (MemE gS gO iv) [(p, d)] ∧ Mem wr gS gO cO sure iv since ∧ KInv d sure since ∧ d.loose.length ≤ n ∧ ∀ k, k < 4 → (since.getD k []).length ≤ n

theorem OutS.step {w1 wr w5 : World} {p gS g cap k : Nat} {d : D} {v : Value} (h : OutS w1 p gS d k v wr) (o : Obj) (hown : w5.ownsRow 0 49 1 (.slice (some ⟨g, 0, none⟩) (k + 1) cap) (k + 1) (List.replicate k (.slice none 0 0) ++ [.slice none 0 0]))
    (hg : (wr.alloc o).grownBy w5 v.ownBlock) (hat : v.ownBlock = some g ∨ g = wr.heap.size + 1) (hlt : g < w5.heap.size) : OutS w1 p gS d (k + 1) (.slice (some ⟨g, 0, none⟩) (k + 1) cap) w5 := by
  obtain ⟨h1, h2, h3⟩ := h
  have lt : gS < wr.heap.size := (Array.getElem?_eq_some_iff.1 h2).1
  have ne : v.ownBlock ≠ some gS := fun e => by
    obtain ⟨c, hc⟩ := ownsRow_block h3 e
    have := h2.symm.trans hc
    simp at this
  have t : Touch (fun b => b = gS ∨ v.ownBlock = some b) wr w5 := ((Touch.refl _ wr).alloc o).grown hg (fun b hb => .inr hb)
  refine ⟨h1.touchE t fun x hx => ?_, (hg.block gS (by simp; omega) (fun e => ne e.symm)).trans ((Below.heap_alloc wr o gS lt).trans h2), by rw [List.replicate_succ']; exact hown⟩
  rcases hx with rfl | hx
  · exact .inl (.inl rfl)
  · simp [Value.ownBlock] at hx
    subst hx
    rcases hat with hat | hat
    · exact .inl (.inr hat)
    · exact .inr ⟨by omega, hlt⟩
theorem KeepS.mono {w1 wr : World} {p gS gO cO n m : Nat} (h : KeepS w1 p gS gO cO n wr) (hm : n ≤ m) : KeepS w1 p gS gO cO m wr := by
  obtain ⟨d, sure, iv, since, a, b, c, e, f⟩ := h
  exact ⟨d, sure, iv, since, a, b, c, Nat.le_trans e hm, fun k hk => Nat.le_trans (f k hk) hm⟩
/-- while a sync is booked -/
def SyncS (w1 : World) (p gS gO cO : Nat) (d : D) (sure : List UInt8) (since : List (List UInt8)) (j : Nat) (wr : World) : Prop :=
  ∃ sure' iv' since', Own w1 wr (MemE gS gO iv') [(p, d)] ∧ Mem wr gS gO cO sure' iv' since' ∧ ∀ k, k < 4 → (k < j → sure'.getD k 0 = (since.getD k []).getLastD (sure.getD k 0) ∧ since'.getD k [] = []) ∧ (j ≤ k → sure'.getD k 0 = sure.getD k 0 ∧ since'.getD k [] = since.getD k [])
theorem Mem.drew {wr : World} {gS gO cO : Nat} {sure : List UInt8} {iv : List Value} {since : List (List UInt8)} (h : Mem wr gS gO cO sure iv since) : Mem wr.drew gS gO cO sure iv since := h.far fun _ _ => rfl
theorem Own.drew {w a : World} {E : Nat → Prop} {L : List (Nat × D)} (h : Own w a E L) : Own w a.drew E L := h.later ((Below.refl _ a).drew)
theorem getD_set_self {α : Type} (l : List α) (k : Nat) (x z : α) (h : k < l.length) : (l.set k x).getD k z = x := by simp [List.getD, h]
theorem getD_set_ne {α : Type} (l : List α) (k j : Nat) (x z : α) (h : k ≠ j) : (l.set k x).getD j z = l.getD j z := by simp [List.getD, h]
theorem SyncS.skip {w1 wr : World} {p gS gO cO j : Nat} {d : D} {sure sure' : List UInt8} {since since' : List (List UInt8)} {iv' : List Value} (hO : Own w1 wr (MemE gS gO iv') [(p, d)]) (hM : Mem wr gS gO cO sure' iv' since')
    (hP : ∀ k, k < 4 → (k < j → sure'.getD k 0 = (since.getD k []).getLastD (sure.getD k 0) ∧ since'.getD k [] = []) ∧ (j ≤ k → sure'.getD k 0 = sure.getD k 0 ∧ since'.getD k [] = since.getD k [])) (hj : j < 4) (h0 : since'.getD j [] = []) : SyncS w1 p gS gO cO d sure since (j + 1) wr := by
  refine ⟨sure', iv', since', hO, hM, fun k hk => ⟨fun hlt => ?_, fun hge => (hP k hk).2 (by omega)⟩⟩
  by_cases e : k = j
  · subst e
    obtain ⟨h1, h2⟩ := (hP k hk).2 (Nat.le_refl _)
    rw [h1, h0, ← h2, h0]
    exact ⟨rfl, rfl⟩
  · exact (hP k hk).1 (by omega)
theorem SyncS.book {w1 wr : World} {p gS gO cO j : Nat} {d : D} {sure sure' : List UInt8} {since since' : List (List UInt8)} {iv' : List Value} (hO : Own w1 wr (MemE gS gO iv') [(p, d)]) (hM : Mem wr gS gO cO sure' iv' since')
    (hP : ∀ k, k < 4 → (k < j → sure'.getD k 0 = (since.getD k []).getLastD (sure.getD k 0) ∧ since'.getD k [] = []) ∧ (j ≤ k → sure'.getD k 0 = sure.getD k 0 ∧ since'.getD k [] = since.getD k [])) (hj : j < 4) {c : UInt8} (h0 : ∀ z, (since'.getD j []).getLastD z = c) :
    SyncS w1 p gS gO cO d sure since (j + 1) ((wr.drew.setCell ⟨gS, j, none⟩ (.int .u8 (c.toNat : Int))).setCell ⟨gO, j, none⟩ (.slice none 0 0)) := by
  have hM2 := (hM.drew.setS hj c).nilO hj
  have hO2 := (hO.drew.setE (x := ⟨gS, j, none⟩) (.inl rfl) (.int .u8 (c.toNat : Int))).setE (x := ⟨gO, j, none⟩) (.inr (.inl rfl)) (.slice none 0 0)
  have hl1 : j < sure'.length := by rw [hM.s4]; exact hj
  have hl2 : j < since'.length := by rw [hM.n4]; exact hj
  refine ⟨sure'.set j c, iv'.set j (.slice none 0 0), since'.set j [], hO2.laterE (Below.refl _ _) fun x hx => .inl ?_, hM2, fun k hk => ?_⟩
  · rcases hx with rfl | rfl | ⟨k, u, hu, hb⟩
    · exact .inl rfl
    · exact .inr (.inl rfl)
    · by_cases e : k = j
      · subst e
        rw [List.getElem?_set_self (by rw [hM.i4]; exact hj)] at hu
        cases hu
        simp [Value.ownBlock] at hb
      · rw [List.getElem?_set_ne (fun h => e h.symm)] at hu
        exact .inr (.inr ⟨k, u, hu, hb⟩)
  · by_cases e : k = j
    · subst e
      refine ⟨fun _ => ?_, fun h => by omega⟩
      obtain ⟨_, h2⟩ := (hP k hk).2 (Nat.le_refl _)
      rw [getD_set_self _ _ _ _ hl1, getD_set_self _ _ _ _ hl2, ← h2, h0]
      exact ⟨rfl, rfl⟩
    · rw [getD_set_ne _ _ _ _ _ (fun h => e h.symm), getD_set_ne _ _ _ _ _ (fun h => e h.symm)]
      exact ⟨fun h => (hP k hk).1 (by omega), fun h => (hP k hk).2 (by omega)⟩
theorem SyncS.done {w1 wr : World} {p gS gO cO n : Nat} {d : D} {sure : List UInt8} {since : List (List UInt8)} (h : SyncS w1 p gS gO cO d.sync sure since 4 wr) (hI : KInv d sure since) : KeepS w1 p gS gO cO n wr := by
  obtain ⟨sure', iv', since', hO, hM, hP⟩ := h
  refine ⟨d.sync, sure', iv', since', hO, hM, hI.sync (fun k hk => ((hP k hk).1 hk).1) (fun k hk => ((hP k hk).1 hk).2), by simp [D.sync], fun k hk => by rw [((hP k hk).1 hk).2]; simp⟩
theorem OutS.end {w1 wr : World} {p gS : Nat} {d : D} {v : Value} (h : OutS w1 p gS d 4 v wr) (hd : d.sure = S0) (hl : d.loose = []) : ∃ gO cO, v = .slice (some ⟨gO, 0, none⟩) 4 cO ∧ KeepS w1 p gS gO cO 0 wr := by
  obtain ⟨h1, h2, h3⟩ := h
  obtain ⟨gO, cO, rfl, _, _⟩ := h3.form (by omega)
  refine ⟨gO, cO, rfl, d, [0, 0, 0, 0], List.replicate 4 (.slice none 0 0), List.replicate 4 [], ?_, ⟨rfl, rfl, rfl, ?_, h3, ?_, ?_, ?_⟩, ⟨by rw [hd]; rfl, ?_, ?_⟩, by rw [hl]; simp, ?_⟩
  · refine h1.laterE (Below.refl _ _) fun x hx => .inl ?_
    rcases hx with rfl | rfl | ⟨k, u, hu, hb⟩
    · exact .inl rfl
    · exact .inr rfl
    · rw [List.getElem?_replicate] at hu
      split at hu
      · cases hu; simp [Value.ownBlock] at hb
      · cases hu
  · exact ⟨rfl, .inr ⟨gS, 4, _, rfl, Nat.zero_le _, h2, Nat.le_refl _, by unfold maxLen; omega, rfl, rfl⟩⟩
  · intro k u s hu hs
    rw [List.getElem?_replicate] at hu hs
    split at hu
    · rename_i hk
      rw [if_pos hk] at hs
      cases hu; cases hs
      exact World.ownsRow_nil _ _ _ _
    · cases hu
  · intro k u hu
    rw [List.getElem?_replicate] at hu
    split at hu
    · cases hu; simp [Value.ownBlock]
    · cases hu
  · intro i j u z b _ hu _ hb
    rw [List.getElem?_replicate] at hu
    split at hu
    · cases hu; simp [Value.ownBlock] at hb
    · cases hu
  · intro k hk
    rw [hd]
    have : k = 0 ∨ k = 1 ∨ k = 2 ∨ k = 3 := by omega
    rcases this with rfl | rfl | rfl | rfl <;> rfl
  · intro k hk
    rw [hl]
    have : k = 0 ∨ k = 1 ∨ k = 2 ∨ k = 3 := by omega
    rcases this with rfl | rfl | rfl | rfl <;> rfl
  · intro k hk
    have : k = 0 ∨ k = 1 ∨ k = 2 ∨ k = 3 := by omega
    rcases this with rfl | rfl | rfl | rfl <;> simp

theorem infoU8 : (Try.prog.info? 5).map (fun i => (i.zero, i.size, i.bytes)) = some (some (.int .u8 0), 1, 1) := by kernel_rfl
theorem Mem.cellO {wr w1 : World} {gS gO cO : Nat} {sure : List UInt8} {iv : List Value} {since : List (List UInt8)} (h : Mem wr gS gO cO sure iv since) {k : Nat} (hk : k < 4) {v : Value} (hv : iv[k]? = some v) (o : Obj) (hG : (wr.drew.alloc o).grownBy w1 v.ownBlock) :
    w1.cell? ⟨gO, k, none⟩ = some v ∧ w1.frozen? ⟨gO, k, none⟩ = false := by
  have hlt := h.lt gO (.inr (.inl rfl))
  have hO : w1.ownsRow 0 49 1 (.slice (some ⟨gO, 0, none⟩) 4 cO) 4 iv := ownsRow_far h.O fun b hb => by
    simp [Value.ownBlock] at hb; subst hb
    rw [hG.block _ (by simp; omega) (fun e => h.neI hv e.symm)]
    exact Below.heap_alloc wr.drew o _ hlt
  refine ⟨?_, ?_⟩
  · have := hO.cells (g := gO) rfl k v hv
    rwa [Addr.add_mid, Nat.zero_add] at this
  · have := (ownsRow_there hO k 1 (by omega) 0 (by omega)).2
    rwa [Nat.add_zero] at this
theorem ownsRow_slice {w : World} {B : Nat} {e : TypeId} {size : Nat} {v : Value} {n : Nat} {xs : List Value} (h : w.ownsRow B e size v n xs) : ∃ a c, v = .slice a n c := by
  rcases h.2 with ⟨rfl, rfl⟩ | ⟨g, cap, cur, rfl, _⟩
  · exact ⟨none, 0, rfl⟩
  · exact ⟨_, _, rfl⟩
theorem now_crash (d : D) (keep : List Bool) (k : Nat) : now (d.crash keep) k = (d.crash keep).sure.getD k [] := rfl
theorem fullB_inj (a b : UInt8) (h : fullB a = fullB b) : a = b := by
  have h1 : fullL a = fullL b := by rw [← fullB_list a, ← fullB_list b, h]
  have h2 : (fullL a)[0]? = (fullL b)[0]? := by rw [h1]
  simpa [fullL] using h2
/-- after the crash -/
def FinS (w1 : World) (p gS gO cO : Nat) (dc : D) (sure : List UInt8) (iv : List Value) (since : List (List UInt8)) (wr : World) : Prop :=
  Own w1 wr (MemE gS gO iv) [(p, dc)] ∧ Mem wr gS gO cO sure iv since
theorem FinS.later {w1 a b : World} {p gS gO cO : Nat} {dc : D} {sure : List UInt8} {iv : List Value} {since : List (List UInt8)} (h : FinS w1 p gS gO cO dc sure iv since a) (t : Below a.heap.size a b) : FinS w1 p gS gO cO dc sure iv since b :=
  ⟨h.1.later t, h.2.far fun x hx => t.block x (h.2.lt x hx)⟩
theorem KeepS.put {w1 wb w5 : World} {p gS gO cO n kk g cap : Nat} {d : D} {c : UInt8} {sure : List UInt8} {since : List (List UInt8)} {iv : List Value} {v : Value} {s : List UInt8}
    (hO : Own w1 wb (MemE gS gO iv) [(p, d.write kk (fullL c))]) (hM : Mem wb gS gO cO sure iv since) (hI : KInv d sure since) (hdl : d.loose.length ≤ n) (hsl : ∀ k, k < 4 → (since.getD k []).length ≤ n)
    (hk : kk < 4) (hv : iv[kk]? = some v) (hs : since[kk]? = some s) (o : Obj) (hown : w5.ownsRow 0 5 1 (.slice (some ⟨g, 0, none⟩) (s.length + 1) cap) (s.length + 1) (Lib.byteCells s ++ [.int .u8 (c.toNat : Int)]))
    (hG : (wb.drew.alloc o).grownBy w5 v.ownBlock) (hat : v.ownBlock = some g ∨ g = wb.heap.size + 1) (hlt : g < w5.heap.size) :
    KeepS w1 p gS gO cO (n + 1) (w5.setCell ⟨gO, kk, none⟩ (.slice (some ⟨g, 0, none⟩) (s.length + 1) cap)) := by
  have e1 : Lib.byteCells s ++ [.int .u8 (c.toNat : Int)] = Lib.byteCells (s ++ [c]) := by simp [Lib.byteCells]
  rw [e1] at hown
  have hM2 := hM.put hk hv hs o hG hown (fun b hb => by
    simp [Value.ownBlock] at hb
    subst hb
    rcases hat with h | h
    · exact .inl h
    · exact .inr (by omega))
  have t : Touch (MemE gS gO iv) wb (w5.setCell ⟨gO, kk, none⟩ (.slice (some ⟨g, 0, none⟩) (s.length + 1) cap)) :=
    ((((Touch.refl _ wb).drew).alloc o).grown hG (fun b hb => .inr (.inr ⟨kk, v, hv, hb⟩))).setCell (x := ⟨gO, kk, none⟩) (.inr (.inl rfl)) _
  have hge : since.getD kk [] = s := by rw [List.getD, hs, Option.getD_some]
  have hI2 := hI.write hM.n4 hk c
  rw [hge] at hI2
  have hil : kk < iv.length := by rw [hM.i4]; exact hk
  refine ⟨_, sure, _, _, hO.touchE t fun x hx => ?_, hM2, hI2, by simp [D.write]; exact hdl, fun k hk4 => ?_⟩
  · rcases hx with rfl | rfl | ⟨k, u, hu, hb⟩
    · exact .inl (.inl rfl)
    · exact .inl (.inr (.inl rfl))
    · by_cases e : k = kk
      · subst e
        rw [List.getElem?_set_self hil] at hu
        cases hu
        simp [Value.ownBlock] at hb
        subst hb
        rcases hat with h | h
        · exact .inl (.inr (.inr ⟨k, v, hv, h⟩))
        · exact .inr ⟨by omega, by simp; exact hlt⟩
      · rw [List.getElem?_set_ne (fun h => e h.symm)] at hu
        exact .inl (.inr (.inr ⟨k, u, hu, hb⟩))
  · have h1 := hsl k hk4
    by_cases e : k = kk
    · subst e
      have hnl : k < since.length := by rw [hM.n4]; exact hk
      rw [getD_set_self _ _ _ _ hnl, List.length_append]
      rw [hge] at h1
      simp; exact h1
    · rw [getD_set_ne _ _ _ _ _ (fun h => e h.symm)]
      omega

set_option maxRecDepth 100000 in
set_option maxHeartbeats 16000000 in
theorem keeps_walk {w : World} {v kv : Value} {l : List Cl} {keep : List Bool} {fu : Int} (hfu : 0 ≤ fu ∧ fu ≤ 255) (hc : IsCalls w v l) (hl : l.length ≤ 140737488351232) (hk : Bools w kv keep) (hkl : keep.length ≤ 140737488351232) :
    Calls Try.prog 4 #[v, .int .u8 fu, kv] w fun e w' => e = .returned (.bool true) ∧ Below w.heap.size w w' := by
  have al := alive_any
  have hv := heavy_any hc hl
  have HC := Lib.hid hc
  have HK := Lib.hid hk
  obtain ⟨va, vc, rfl, _⟩ := hc
  obtain ⟨ka, kc, rfl, _⟩ := hk
  obtain ⟨fu0, fu1⟩ := hfu
  go_enter Try.func4, Try.ntmps4
  go_wp2_with fail
  refine hv.mono ?_
  rintro e w1 ⟨b, rfl, hb, n, hw⟩
  have B1 := Lib.hid (show Below w.heap.size w w1 from by rw [hw]; exact ⟨rfl, rfl, rfl, Nat.le_refl _, fun _ _ => rfl⟩)
  clear hw hv
  cases b
  case true =>
    go_wp2_with fail
    refine (al _).mono ?_
    rintro e w2 ⟨rfl, b2⟩
    have H2 := Lib.hid (B1.out.trans (b2.mono B1.out.size))
    clear b2 B1
    go_wp2_with fail
    go_ret
    exact ⟨rfl, H2.out⟩
  case false =>
  obtain ⟨hl100, hw8⟩ := hb rfl
  clear hb hw8
  by_cases h200 : 200 < keep.length
  · have e1 : decide ((200 : Int) < (keep.length : Int)) = true := decide_eq_true (by omega)
    clear h200
    go_wp2_with fail
    refine (al _).mono ?_
    rintro e w2 ⟨rfl, b2⟩
    have H2 := Lib.hid (B1.out.trans (b2.mono B1.out.size))
    clear b2 B1
    go_wp2_with fail
    go_ret
    exact ⟨rfl, H2.out⟩
  have e1 : decide ((200 : Int) < (keep.length : Int)) = false := decide_eq_false (by omega)
  have n0 : Calls Try.prog 9 #[.int .i64 4] w1 _ := new_any 4 w1 (by omega) (by omega)
  go_wp2_with fail
  refine n0.mono ?_
  rintro e w2 ⟨rfl, h2⟩
  have O2 := Lib.hid (show Own w1 w2 (fun _ => False) [(w1.heap.size + 1, ⟨S0, [], -1⟩)] from ((Own.start w1).add h2).1)
  generalize w1.heap.size + 1 = p at *
  clear n0 h2
  obtain ⟨F, r, _, hnext⟩ := O2.out.call (i := 0) rfl
  have c3 := Lib.hid (fuse_any r (n := fu) fu0 (by omega))
  have NX := Lib.hid hnext
  clear r hnext
  go_wp2_with fail
  refine c3.out.mono ?_
  rintro e w3 ⟨rfl, h3⟩
  have O3 := Lib.hid (show Own w1 w3 (fun _ => False) [(p, ⟨S0, [], fu⟩)] from (NX.out _ _ (Rep.g0 h3)).1)
  clear c3 h3 NX O2
  obtain ⟨i0, hi, hz0, hz1, hz2⟩ := info_parts infoSl
  have P0 := Lib.hid (show OutS w1 p w3.heap.size ⟨S0, [], fu⟩ 0 (.slice none 0 0) (w3.alloc (.cells #[.int .u8 0, .int .u8 0, .int .u8 0, .int .u8 0] 5)) from
    ⟨O3.out.laterE ((Below.refl _ _).alloc (Nat.le_refl _) _) (fun x hx => .inr (by
      rcases hx with rfl | hx
      · exact ⟨Nat.le_refl _, by simp⟩
      · simp [Value.ownBlock] at hx)), heap_alloc_new _ _, World.ownsRow_nil _ _ _ _⟩)
  clear O3
  go_wp2_with fail
  generalize w3.heap.size = gS at *
  generalize w3.alloc (.cells #[.int .u8 0, .int .u8 0, .int .u8 0, .int .u8 0] 5) = w4 at *
  go_loopw [10, 11] (fun v i wr => ∃ k : Nat, k ≤ 4 ∧ i = .int .i64 k ∧ OutS w1 p gS ⟨S0, [], fu⟩ k v wr) (fun _ i _ => 4 - (intOf i).toNat)
  case atStart => exact ⟨0, by omega, by go_num, P0.out⟩
  case round =>
    obtain ⟨k, hk, rfl, hp⟩ := hrel
    clear P0
    by_cases hlt : k < 4
    · have HP := Lib.hid hp
      clear hp
      have ho := HP.out.2.2
      have hn1 := World.news_of_block (cs := #[.slice none 0 0]) (heap_alloc_new wr (.cells #[.slice none 0 0] 49))
      go_wp2_with (at_builtin; refine wpList_append_lies _ rfl _ _ _ rfl 0 49 i0 _ 1 24 Try.underlying50 hi hz0 hz1 hz2 rfl (by omega) _ k (List.replicate k (.slice none 0 0)) (by rfl) (ho.alloc _) ⟨wr.heap.size, 0, none⟩ 1 1 [.slice none 0 0] (by rfl) rfl hn1 (by intro u hu; simp at hu; subst hu; rfl) (by omega) (by unfold maxLen; omega) (by omega) (by omega) _ rfl ?_)
      intro g cap w5 hown hgrow hat hlt2
      have ST := Lib.hid (OutS.step HP.out _ hown hgrow hat hlt2)
      clear ho hn1 hown hgrow hat hlt2 HP
      go_wp2_with fail
      go_roundw
      case rel => exact ⟨k + 1, by omega, by go_num, ST.out⟩
      case measure => simp [intOf]; omega
    · obtain rfl : k = 4 := by omega
      obtain ⟨gO, cO, rfl, hks⟩ := hp.end rfl rfl
      have KS := Lib.hid hks
      clear hp hks hi hz0 hz1 hz2 i0
      simp only [show ((4 : Nat) : Int) = 4 from rfl]
      go_upto_block 2 with fail
      go_cut [12] (fun s12 wx => KeepS w1 p gS gO cO 100 wx)
      case first =>
        go_wp2_with fail
        go_loopw [12] (fun i wr => ∃ k : Nat, k ≤ l.length ∧ i = .int .i64 k ∧ KeepS w1 p gS gO cO k wr) (fun i _ => l.length - (intOf i).toNat)
        case atStart => exact ⟨0, by omega, by go_num, KS.out⟩
        case round =>
          obtain ⟨k, hk, rfl, hks⟩ := hrel
          clear KS
          by_cases hlt : k < l.length
          · obtain ⟨d, sure, iv, since, hO, hM, hI, hdl, hsl⟩ := hks
            obtain ⟨x, o, cap', hv, hcl⟩ := (HC.out.later (B1.out.trans (hO.below.mono B1.out.size))).at hlt
            simp at hv
            obtain ⟨rfl, rfl⟩ := hv
            have c0 := hcl.c0
            have hop := hcl.op
            have MM := Lib.hid hM
            have II := Lib.hid hI
            have OO := Lib.hid hO
            have b0 : (k : Int) < (l.length : Int) := by omega
            by_cases h3 : l[k].op % 8 = 3
            · have e3 : (l[k].op % 8 == 3) = true := by simpa using h3
              obtain ⟨F, r, _, hnext⟩ := OO.out.call (i := 0) rfl
              by_cases hf : d.fuse = 0
              · have cs := Lib.hid (sync_down r hf)
                have KE := Lib.hid (show KeepS w1 p gS gO cO 100 wr from ⟨d, sure, iv, since, hO, hM, hI, by omega, fun j hj => by have := hsl j hj; omega⟩)
                clear r hnext hM hI hO hcl h3 MM II OO hf
                go_wp2_with fail
                refine cs.out.mono ?_
                rintro e w' ⟨rfl, rfl⟩
                go_wp2_with fail
                go_meet
                exact KE.out
              · have cs := Lib.hid (sync_any r hf (by omega))
                have NX := Lib.hid hnext
                clear r hnext hM hI hO hcl h3 hf
                go_wp2_with fail
                refine cs.out.mono ?_
                rintro e wb ⟨rfl, hb⟩
                have hnb := NX.out _ _ (Rep.g0 hb)
                have SB := Lib.hid (show SyncS w1 p gS gO cO d.sync sure since 0 wb from ⟨sure, iv, since, hnb.1, MM.out.far fun b hb => hnb.2 b hb, fun k _ => ⟨fun h => by omega, fun _ => ⟨rfl, rfl⟩⟩⟩)
                clear hb hnb NX cs MM OO
                go_wp2_with fail
                go_loopw [13] (fun i wr => ∃ j : Nat, j ≤ 4 ∧ i = .int .i64 j ∧ SyncS w1 p gS gO cO d.sync sure since j wr) (fun i _ => 4 - (intOf i).toNat)
                case atStart => exact ⟨0, by omega, by go_num, SB.out⟩
                case round =>
                  obtain ⟨j, hj, rfl, hsy⟩ := hrel
                  clear SB
                  by_cases hj4 : j < 4
                  · obtain ⟨sure', iv', since', hO, hM, hP⟩ := hsy
                    have hlen : (since'.getD j []).length ≤ 100 := by
                      have h1 := hP j hj4
                      have h2 := hsl j hj4
                      rw [(h1.2 (Nat.le_refl _)).2]; omega
                    have hiv : iv'[j]? = some (iv'[j]'(by rw [hM.i4]; exact hj4)) := List.getElem?_eq_getElem (by rw [hM.i4]; exact hj4)
                    have hsv : since'[j]? = some (since'.getD j []) := by
                      have hjl : j < since'.length := by rw [hM.n4]; exact hj4
                      rw [List.getElem?_eq_getElem hjl, List.getD, List.getElem?_eq_getElem hjl, Option.getD_some]
                    have hown := hM.I j _ _ hiv hsv
                    have hcell := hM.O.cells (g := gO) rfl j _ hiv
                    rw [Addr.add_mid, Nat.zero_add] at hcell
                    have SK := Lib.hid (fun h0 => SyncS.skip (p := p) (d := d.sync) (sure := sure) (since := since) hO hM hP hj4 h0)
                    have BK := Lib.hid (fun (c : UInt8) h0 => SyncS.book (p := p) (d := d.sync) (sure := sure) (since := since) hO hM hP hj4 (c := c) h0)
                    have MS := Lib.hid hM
                    have b4 : (j : Int) < 4 := by omega
                    generalize iv'[j]'(by rw [hM.i4]; exact hj4) = u at *
                    clear hiv hsv hM hO hP
                    rcases hown.2 with ⟨rfl, hn0⟩ | ⟨gi, ci, cur, rfl, _, hgi, _⟩
                    · have h0 : since'.getD j [] = [] := List.eq_nil_of_length_eq_zero hn0
                      have ST := Lib.hid (SK.out h0)
                      clear hn0 h0 hown SK BK MS
                      go_wp2_with fail
                      go_roundw
                      case rel => exact ⟨j + 1, by omega, by go_num, ST.out⟩
                      case measure => simp [intOf]; omega
                    · obtain ⟨T, hT⟩ : ∃ T, T = since'.getD j [] := ⟨_, rfl⟩
                      rw [← hT] at hown hcell hlen SK BK
                      clear hT hgi
                      rcases List.eq_nil_or_concat T with h0 | ⟨T', c, h0⟩
                      · have ST := Lib.hid (SK.out h0)
                        rw [h0] at hcell
                        simp only [List.length_nil] at hcell
                        clear h0 hown SK BK MS hlen
                        go_wp2_with fail
                        go_roundw
                        case rel => exact ⟨j + 1, by omega, by go_num, ST.out⟩
                        case measure => simp [intOf]; omega
                      · have hTl : T.length = T'.length + 1 := by rw [h0]; simp
                        have hlast := hown.cells (g := gi) rfl T'.length (.int .u8 (c.toNat : Int)) (by rw [h0]; simp [Lib.byteCells])
                        rw [Addr.add_mid, Nat.zero_add] at hlast
                        rw [hTl] at hcell hlen
                        have ST := Lib.hid (BK.out c (fun z => by rw [h0]; simp))
                        obtain ⟨us, hus⟩ : ∃ us, _ = some us := Option.isSome_iff_exists.1 (ownsRow_there MS.out.S j 1 (by omega) 0 (by omega)).1
                        have huf := (ownsRow_there MS.out.S j 1 (by omega) 0 (by omega)).2
                        obtain ⟨uo, huo⟩ : ∃ uo, _ = some uo := Option.isSome_iff_exists.1 (ownsRow_there MS.out.O j 1 (by omega) 0 (by omega)).1
                        have huof := (ownsRow_there MS.out.O j 1 (by omega) 0 (by omega)).2
                        rw [Nat.add_zero] at hus huf huo huof
                        have ngo : gS ≠ gO := MS.out.ne
                        have bm0 : (0 : Int) ≤ (T'.length : Int) := Int.natCast_nonneg _
                        clear huo hown MS SK BK h0 hTl
                        generalize T'.length = m at *
                        have w1m : IntKind.i64.wrap (m : Int) = (m : Int) := IntWalk.i64_in _ (by omega)
                        have bm1 : (m : Int) < (m : Int) + 1 := by omega
                        go_wp2_with fail
                        go_still_tail 15, (by kernel_rfl)
                        go_wp2_with fail
                        go_roundw
                        case rel => exact ⟨j + 1, by omega, by go_num, ST.out⟩
                        case measure => simp [intOf]; omega
                  · obtain rfl : j = 4 := by omega
                    have KE := Lib.hid (hsy.done (n := k + 1) II.out)
                    clear hsy II
                    go_wp2_with fail
                    go_roundw
                    case rel => exact ⟨k + 1, by omega, by go_num, KE.out⟩
                    case measure => simp [intOf]; omega
            · have e3 : (l[k].op % 8 == 3) = false := by simpa using h3
              have c1 := hcl.c1
              have c2 := hcl.c2
              have kr := hcl.k
              obtain ⟨K, hK⟩ : ∃ K, K = l[k].k := ⟨_, rfl⟩
              obtain ⟨C, hC⟩ : ∃ C, C = l[k].c := ⟨_, rfl⟩
              rw [← hK] at c1 kr
              rw [← hC] at c2
              have KE := Lib.hid (slot_k K kr.1 kr.2)
              have kl := kOf_lt K
              have HCE := Lib.hid hC
              have HDL := Lib.hid hdl
              have HSL := Lib.hid hsl
              clear hK hC hcl kr h3 hM hI hO hdl hsl
              go_wp2_with fail
              rw [KE.out]
              refine (full_b C _).mono ?_
              rintro e wa ⟨rfl, ba⟩
              have OA := Lib.hid (OO.out.later ba)
              have MA := Lib.hid (MM.out.far fun b hb => ba.block b (MM.out.lt b hb))
              clear ba OO MM
              obtain ⟨F, r, hE, hnext⟩ := OA.out.call (i := 0) rfl
              by_cases hf : d.fuse = 0
              · have cw := Lib.hid (write_down r hf (kOf K) (fullB C))
                have KS2 := Lib.hid (show KeepS w1 p gS gO cO 100 wa from ⟨d, sure, iv, since, OA.out, MA.out, II.out, by have := HDL.out; omega, fun j hj => by have := HSL.out j hj; omega⟩)
                clear r hE hnext hf OA MA II
                go_wp2_with fail
                refine cw.out.mono ?_
                rintro e w' ⟨rfl, rfl⟩
                go_wp2_with fail
                go_meet
                exact KS2.out
              · have cw := Lib.hid (write_any r hf (k := kOf K) (by rw [II.out.n]; exact kl) (fullB C) (fullB_size C) (by have := HDL.out; omega))
                have NX := Lib.hid hnext
                clear r hE hnext hf
                go_wp2_with fail
                refine cw.out.mono ?_
                rintro e wb ⟨rfl, hb⟩
                have hnb := NX.out _ _ hb
                have OB : Own w1 wb (MemE gS gO iv) [(p, d.write (kOf K) (fullL C))] := hnb.1
                have MB := MA.out.far fun b hb => hnb.2 b hb
                obtain ⟨x', o', cap', hv, hcl⟩ := (HC.out.later (B1.out.trans (OB.below.mono B1.out.size))).at hlt
                simp at hv
                obtain ⟨⟨rfl, rfl⟩, rfl⟩ := hv
                have c2 := hcl.c2
                rw [← HCE.out] at c2
                have hiv : iv[kOf K]? = some (iv[kOf K]'(by rw [MB.i4]; exact kl)) := List.getElem?_eq_getElem (by rw [MB.i4]; exact kl)
                have hsv : since[kOf K]? = some (since.getD (kOf K) []) := by
                  have hjl : kOf K < since.length := by rw [MB.n4]; exact kl
                  rw [List.getElem?_eq_getElem hjl, List.getD, List.getElem?_eq_getElem hjl, Option.getD_some]
                have hcell := MB.O.cells (g := gO) rfl (kOf K) _ hiv
                rw [Addr.add_mid, Nat.zero_add] at hcell
                have hown := MB.I _ _ _ hiv hsv
                have hlen : (since.getD (kOf K) []).length ≤ 100 := by have := HSL.out (kOf K) kl; omega
                have PUT := Lib.hid (fun o g cap w5 h1 h2 h3 h4 => KeepS.put (w5 := w5) (g := g) (cap := cap) OB MB II.out HDL.out HSL.out kl hiv hsv o h1 h2 h3 h4)
                have CO := Lib.hid (fun o w5 h => MB.cellO (w1 := w5) kl hiv o h)
                generalize iv[kOf K]'(by rw [MB.i4]; exact kl) = u at *
                generalize since.getD (kOf K) [] = T at *
                have b4 : (kOf K : Int) < 4 := by omega
                clear hiv hsv hb hnb cw NX MA OA HC hcl OB MB II
                generalize kOf K = kk at *
                have bk0 : (0 : Int) ≤ (kk : Int) := Int.natCast_nonneg _
                have bl : (k : Int) < (l.length : Int) := by omega
                have hcd : wb.drew.cell? ⟨gO, kk, none⟩ = some u := hcell
                have ltO : gO < wb.heap.size := World.block_lt_of_cell? _ _ hcell
                have hca : (wb.alloc (.cells #[.int .u8 (C.toNat : Int)] 5)).cell? ⟨gO, kk, none⟩ = some u := by rw [World.cell?_alloc_lt _ _ _ (by exact ltO)]; exact hcell
                have c2d : wb.drew.cell? ⟨x, o + k * 7 + 2, none⟩ = some (.int .u8 (C.toNat : Int)) := c2
                obtain ⟨iu, hi, hz0, hz1, hz2⟩ := info_parts infoU8
                have I0 := Lib.hid (show Try.prog.info? 5 = some iu ∧ _ ∧ iu.size = 1 ∧ iu.bytes = 1 from ⟨hi, hz0, hz1, hz2⟩)
                have HR := Lib.hid (show wb.drew.ownsRow 0 5 1 u T.length (Lib.byteCells T) from ownsRow_far hown fun _ _ => rfl)
                clear hi hz0 hz1 hz2 hown hcell c2 ltO KE
                go_wp2_with fail
                refine wp_region_any (by kernel_rfl) ?_
                change wpAny _ _ _ _ _ _ _ (World.drew _)
                refine wpAny_take (i := 0) (v := (.slice (some ⟨gO, 0, none⟩) 4 cO)) rfl (by kernel_rfl) (by kernel_rfl) (by kernel_rfl) (fun _ _ _ h => h) (Or.inl ⟨by rfl, by intro w; go_simp⟩) ?_
                refine wpAny_take (i := 1) (v := (.int .i64 kk)) rfl (by kernel_rfl) (by kernel_rfl) (by kernel_rfl) (fun _ _ _ h => h) (Or.inl ⟨by rfl, by intro w; go_simp⟩) ?_
                refine wpAny_take (i := 2) (v := (.slice (some ⟨gO, 0, none⟩) 4 cO)) rfl (by kernel_rfl) (by kernel_rfl) (by kernel_rfl) (fun _ _ _ h => h) (Or.inl ⟨by rfl, by intro w; go_simp⟩) ?_
                refine wpAny_take (i := 3) (v := (.int .i64 kk)) rfl (by kernel_rfl) (by kernel_rfl) (by kernel_rfl) (fun _ _ _ h => h) (Or.inl ⟨by rfl, by intro w; go_simp⟩) ?_
                refine wpAny_take (i := 4) (v := .pointer (some ⟨gO, kk, none⟩)) rfl (by kernel_rfl) (by kernel_rfl) (by kernel_rfl) (fun _ _ _ h => h) (Or.inl ⟨by rfl, by intro w; go_simp⟩) ?_
                refine wpAny_take (i := 6) (v := (.slice (some ⟨x, o, none⟩) l.length vc)) rfl (by kernel_rfl) (by kernel_rfl) (by kernel_rfl) (fun _ _ _ h => h) (Or.inl ⟨by rfl, by intro w; go_simp⟩) ?_
                refine wpAny_take (i := 7) (v := (.int .i64 k)) rfl (by kernel_rfl) (by kernel_rfl) (by kernel_rfl) (fun _ _ _ h => h) (Or.inl ⟨by rfl, by intro w; go_simp⟩) ?_
                refine wpAny_take (i := 8) (v := .pointer (some ⟨x, o + k * 7, none⟩)) rfl (by kernel_rfl) (by kernel_rfl) (by kernel_rfl) (fun _ _ _ h => h) (Or.inl ⟨by rfl, by intro w; go_simp⟩) ?_
                refine wpAny_take (i := 9) (v := .pointer (some ⟨x, o + k * 7 + 2, none⟩)) rfl (by kernel_rfl) (by kernel_rfl) (by kernel_rfl) (fun _ _ _ h => h) (Or.inl ⟨by rfl, by intro w; go_simp⟩) ?_
                refine wpAny_ready (rs := [5, 10]) (by kernel_rfl) (by simp) (AllReady.cons rfl (fun K hK => ?_) (AllReady.cons rfl (fun K hK => ?_) AllReady.nil))
                go_simp
                refine hK _ _ ?_
                clear hK K
                refine wpAny_ready (rs := [10]) (by kernel_rfl) (by simp) (AllReady.cons rfl (fun K hK => ?_) AllReady.nil)
                go_simp
                refine hK _ _ ?_
                clear hK K
                refine wpAny_ready (rs := [11]) (by kernel_rfl) (by simp) (AllReady.cons rfl (fun K hK => ?_) AllReady.nil)
                go_simp
                refine hK _ _ ?_
                clear hK K
                rotate_left
                go_simp
                refine hK _ _ ?_
                clear hK K
                refine wpAny_ready (rs := [5, 11]) (by kernel_rfl) (by simp) (AllReady.cons rfl (fun K hK => ?_) (AllReady.cons rfl (fun K hK => ?_) AllReady.nil))
                go_simp
                refine hK _ _ ?_
                clear hK K
                refine wpAny_ready (rs := [11]) (by kernel_rfl) (by simp) (AllReady.cons rfl (fun K hK => ?_) AllReady.nil)
                go_simp
                refine hK _ _ ?_
                clear hK K
                rotate_left
                go_simp
                refine hK _ _ ?_
                clear hK K
                refine wpAny_ready (rs := [5]) (by kernel_rfl) (by simp) (AllReady.cons rfl (fun K hK => ?_) AllReady.nil)
                go_simp
                refine hK _ _ ?_
                clear hK K
                all_goals
                  clear hcd hca c2d
                  refine wpAny_ready (rs := [12]) (by kernel_rfl) (by simp) (AllReady.cons rfl (fun K hK => ?_) AllReady.nil)
                  refine step_append_lies _ (by rfl) _ _ _ (by rfl) 0 5 iu _ 1 1 Try.underlying49 I0.out.1 I0.out.2.1 I0.out.2.2.1 I0.out.2.2.2 (by simp [Value.cells]) (by omega) u T.length (Lib.byteCells T) (by rfl) (HR.out.alloc _) ⟨wb.drew.heap.size, 0, none⟩ 1 1 [.int .u8 (C.toNat : Int)] (by rfl) rfl (World.news_of_block (cs := #[.int .u8 (C.toNat : Int)]) (t := 5) (fr := (0, 0)) (heap_alloc_new _ _)) (by intro u hu; simp at hu; subst hu; rfl) (by omega) (by unfold maxLen; omega) (by omega) (by omega) _ rfl ?_
                  intro g cap' w5 hown1 hgrow hat hlt2
                  refine hK _ _ ?_
                  clear hK K
                  have ST := Lib.hid (PUT.out _ g cap' w5 hown1 hgrow (by rcases hat with h | h; exact .inl h; exact .inr (by rw [h]; simp)) hlt2)
                  obtain ⟨kx, ky⟩ := CO.out _ w5 hgrow
                  clear hown1 hgrow hat hlt2 CO PUT
                  refine wpAny_ready (rs := [13]) (by kernel_rfl) (by simp) (AllReady.cons rfl (fun K hK => ?_) AllReady.nil)
                  go_simp
                  refine hK _ _ ?_
                  clear hK K
                  refine wpAny_ready (rs := [14]) (by kernel_rfl) (by simp) (AllReady.cons rfl (fun K hK => ?_) AllReady.nil)
                  go_simp
                  refine hK _ _ ?_
                  clear hK K
                  refine wpAny_done (by kernel_rfl) ?_ _
                  clear kx ky
                  go_wp2_with fail
                  go_roundw
                  case rel => exact ⟨k + 1, by omega, by go_num, ST.out⟩
                  case measure => simp [intOf]; omega
          · obtain rfl : k = l.length := by omega
            have KE := Lib.hid (hks.mono (m := 100) hl100)
            clear hks
            go_wp2_with fail
            go_meet
            exact KE.out
      case rest =>
        obtain ⟨d, sure, iv, since, hO, hM, hI, hdl, hsl⟩ := hcut
        have hK3 := HK.out.later (B1.out.trans (hO.below.mono B1.out.size))
        obtain ⟨v', x4, hr4, hB4, hb4, hf4⟩ := copy_bools hK3 hkl 38
        have HR4 := Lib.hid hr4
        have HB4 := Lib.hid hB4
        have O4 := Lib.hid (hO.laterE (E' := fun b => MemE gS gO iv b ∨ v'.ownBlock = some b) hb4 (fun y hy => by
          rcases hy with hy | hy
          · exact .inl hy
          · exact .inr (hf4 y hy)))
        have M4 := Lib.hid (hM.far fun b hb => hb4.block b (hM.lt b hb))
        have II := Lib.hid hI
        have HSL := Lib.hid hsl
        clear hr4 hB4 hb4 hf4 hK3 hO hM hI hsl KS
        go_wp2_with (at_builtin; refine wpList_append_run rfl _ _ _ rfl 38 rfl _ _ v' x4 rfl rfl HR4.out ?_)
        obtain ⟨F, r, hE, hnext⟩ := O4.out.call (i := 0) rfl
        have c1 := Lib.hid (crash_any r (by omega) HB4.out (by omega) (fun b hb => hE b (.inr hb)))
        have NX := Lib.hid hnext
        clear r hE hnext HR4 HB4 O4
        go_wp2_with fail
        refine c1.out.mono ?_
        rintro e x5 ⟨rfl, h5⟩
        obtain ⟨o5, t5⟩ := NX.out _ _ (Rep.g0 h5)
        have FS := Lib.hid (show FinS w1 p gS gO cO (d.crash keep) sure iv since x5 from ⟨o5.laterE (Below.refl _ _) fun x hx => .inl (.inl hx), M4.out.far fun b hb => t5 b (.inl hb)⟩)
        have SEC := Lib.hid (show ∀ k, k < 4 → ∃ c, now (d.crash keep) k = fullL c ∧ (c = sure.getD k 0 ∨ c ∈ since.getD k []) from fun k hk => II.out.crash keep hk)
        have hdn : (d.crash keep).sure.length = 4 := by show (settleAll _ _).length = 4; rw [settleAll_len]; exact II.out.n
        have hdf : (d.crash keep).fuse ≠ 0 := by show (-1 : Int) ≠ 0; decide
        generalize d.crash keep = dc at *
        clear c1 NX h5 o5 t5 M4 II hdl
        go_wp2_with fail
        go_loopw [15] (fun i wr => ∃ k : Nat, k ≤ 4 ∧ i = .int .i64 k ∧ FinS w1 p gS gO cO dc sure iv since wr) (fun i _ => 4 - (intOf i).toNat)
        case atStart => exact ⟨0, by omega, by go_num, FS.out⟩
        case round =>
          obtain ⟨k, hk, rfl, hfs⟩ := hrel
          clear FS
          by_cases hlt : k < 4
          · have FS := Lib.hid hfs
            obtain ⟨c, hnow, hor⟩ := SEC.out k hlt
            obtain ⟨F, r, _, _⟩ := hfs.1.call (i := 0) rfl
            have cr := Lib.hid (read_any r hdf (k := k) (by omega))
            rw [hnow, show (⟨(fullL c).toArray⟩ : ByteArray) = fullB c from rfl] at cr
            have b4 : (k : Int) < 4 := by omega
            have hs0 := hfs.2.S.cells (g := gS) rfl k (.int .u8 ((sure.getD k 0).toNat : Int)) (by
              have : k < sure.length := by rw [hfs.2.s4]; exact hlt
              simp [Lib.byteCells, List.getD, this])
            rw [Addr.add_mid, Nat.zero_add] at hs0
            obtain ⟨z, hz⟩ : ∃ z, z = sure.getD k 0 := ⟨_, rfl⟩
            rw [← hz] at hs0 hor
            have HOR := Lib.hid hor
            clear hor hnow r hfs hz
            go_wp2_with fail
            refine cr.out.mono ?_
            rintro e w' ⟨rfl, rfl⟩
            clear cr
            go_wp2_with fail
            refine (full_b (z) _).mono ?_
            rintro e wa ⟨rfl, ba⟩
            have hq : FinS w1 p gS gO cO dc sure iv since wa := FS.out.later ba
            clear FS ba hs0
            obtain ⟨T, hT⟩ : ∃ T, T = since.getD k [] := ⟨_, rfl⟩
            have hlen : T.length ≤ 100 := by rw [hT]; exact HSL.out k hlt
            have HT := Lib.hid hT
            have P0 := Lib.hid (show (((fullB c).toList == (fullB (z)).toList) = false → c ≠ z ∧ ∀ x ∈ T.take 0, x ≠ c) ∧ FinS w1 p gS gO cO dc sure iv since wa from ⟨fun h => ⟨fun e => by rw [e] at h; simp at h, by simp⟩, hq⟩)
            clear hT hq
            go_wp2_with fail
            generalize ((fullB c).toList == (fullB (z)).toList) = b0 at *
            go_loopw [18, 19] (fun is i wr => ∃ (j : Nat) (b : Bool), j ≤ T.length ∧ i = .int .i64 j ∧ is = .bool b ∧ (b = false → c ≠ z ∧ ∀ x ∈ T.take j, x ≠ c) ∧ FinS w1 p gS gO cO dc sure iv since wr) (fun _ i _ => T.length - (intOf i).toNat)
            case atStart => exact ⟨0, b0, by omega, by go_num, rfl, P0.out⟩
            case round =>
              obtain ⟨j, b, hj, rfl, rfl, hb, hfs⟩ := hrel
              clear P0
              have FS := Lib.hid hfs
              have HB := Lib.hid hb
              have hiv : iv[k]? = some (iv[k]'(by rw [hfs.2.i4]; exact hlt)) := List.getElem?_eq_getElem (by rw [hfs.2.i4]; exact hlt)
              have hsv : since[k]? = some T := by
                have hjl : k < since.length := by rw [hfs.2.n4]; exact hlt
                rw [HT.out, List.getElem?_eq_getElem hjl, List.getD, List.getElem?_eq_getElem hjl, Option.getD_some]
              have hcell := hfs.2.O.cells (g := gO) rfl k _ hiv
              rw [Addr.add_mid, Nat.zero_add] at hcell
              have hown := hfs.2.I _ _ _ hiv hsv
              generalize iv[k]'(by rw [hfs.2.i4]; exact hlt) = u at *
              clear hiv hsv hfs hb
              obtain ⟨ua, uc, rfl⟩ := ownsRow_slice hown
              by_cases hjt : j < T.length
              · obtain ⟨gi, ci, hv, _, _⟩ := hown.form (by omega)
                simp at hv
                obtain ⟨rfl, rfl⟩ := hv
                have hel := hown.cells (g := gi) rfl j (.int .u8 ((T.getD j 0).toNat : Int)) (by simp [Lib.byteCells, List.getD, hjt])
                rw [Addr.add_mid, Nat.zero_add] at hel
                obtain ⟨t, ht⟩ : ∃ t, t = T.getD j 0 := ⟨_, rfl⟩
                rw [← ht] at hel
                have HTE := Lib.hid ht
                clear ht
                have bj : (j : Int) < (T.length : Int) := by omega
                clear hown
                cases b with
                | true =>
                  go_wp2_with fail
                  go_roundw
                  case rel => exact ⟨j + 1, true, by omega, by go_num, rfl, by simp, FS.out⟩
                  case measure => simp [intOf]; omega
                | false =>
                  go_wp2_with fail
                  refine (full_b t _).mono ?_
                  rintro e wa ⟨rfl, ba⟩
                  have P1 := Lib.hid (show (((fullB c).toList == (fullB t).toList) = false → c ≠ z ∧ ∀ x ∈ T.take (j + 1), x ≠ c) ∧ FinS w1 p gS gO cO dc sure iv since wa from ⟨fun h => ⟨(HB.out (by simp)).1, fun x hx => by
                    rw [List.take_succ_eq_append_getElem hjt, List.mem_append, List.mem_singleton] at hx
                    rcases hx with hx | hx
                    · exact (HB.out (by simp)).2 x hx
                    · intro e
                      have e2 : t = c := by rw [HTE.out, ← e, hx]; simp [List.getD, hjt]
                      rw [e2] at h
                      simp at h⟩, FS.out.later ba⟩)
                  clear FS HB ba hel hcell
                  go_wp2_with fail
                  generalize ((fullB c).toList == (fullB t).toList) = b1 at *
                  go_roundw
                  case rel => exact ⟨j + 1, b1, by omega, by go_num, rfl, P1.out⟩
                  case measure => simp [intOf]; omega
              · obtain rfl : j = T.length := by omega
                have hbt : b = true := by
                  cases b with
                  | true => rfl
                  | false =>
                    obtain ⟨h1, h2⟩ := HB.out rfl
                    rw [List.take_length] at h2
                    rcases HOR.out with h | h
                    · exact (h1 h).elim
                    · rw [← HT.out] at h; exact (h2 c h rfl).elim
                subst hbt
                clear hown HB
                go_wp2_with fail
                go_roundw
                case rel => exact ⟨k + 1, by omega, by go_num, FS.out⟩
                case measure => simp [intOf]; omega
          · obtain rfl : k = 4 := by omega
            have BE := Lib.hid (B1.out.trans (hfs.1.below.mono B1.out.size))
            clear hfs
            go_wp2_with fail
            refine (al _).mono ?_
            rintro e w2 ⟨rfl, b2⟩
            have H2 := Lib.hid (BE.out.trans (b2.mono BE.out.size))
            clear b2 BE
            go_wp2_with fail
            go_ret
            exact ⟨rfl, H2.out⟩

end Go.Proofs.Ytnlkadacbpecmaa.Disk
