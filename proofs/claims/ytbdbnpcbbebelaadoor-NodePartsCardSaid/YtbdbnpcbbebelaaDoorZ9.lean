/-
  Walks: check, key and find, in the document.
  Walks: find and child, in the document.
  Walks: child, weights, texts, in the document.
-/
import Derived.Test.YtbdbnpcbbebelaaDoorZ8
namespace Go.Proofs.YtbdbnpcbbebelaaDoor.Node
open Go.RowKit
open Go.Proofs.YtbdbnpcbbebelaaDoor.Page (Pg nth used pgV pgC)
open Go.Proofs.YtbdbnpcbbebelaaDoor.Row (decR decN okR okE)
open Go.Proofs.YtbdbnpcbbebelaaDoor.Key (cmpOf)
attribute [local go_sem ↓] Go.wp_at_zero Go.wp_at_succ

/-- what check answers -/
def checkI (p : Pg) : Int := if nodeB p then 0 else 7
theorem check_zero (p : Pg) : (checkI p != 0) = !nodeB p := by
  unfold checkI
  cases nodeB p <;> rfl

set_option maxRecDepth 100000 in
set_option maxHeartbeats 1000000 in
theorem rcheck_any {w : World} {v : Value} (p : Pg) (h : Page.Rows w v p.rows) (hu : used p.rows ≤ 1000000) :
    Calls Tryd.prog 17 #[pgV p v] w fun e w' => e = .returned (.int .i64 (checkI p)) ∧ Below w.heap.size w w' := by
  have T0 := Lib.hid (Pb.start h)
  have K1 := Lib.hid (fun (W : World) (t : Pb w W w.heap.size p v) => rkeys_any p t.rows hu)
  have K2 := Lib.hid (fun (W : World) (t : Pb w W w.heap.size p v) => Page.rmay_any p t.rows hu)
  have ec : checkI p = if keysB p && Page.mayP p then 0 else 7 := rfl
  obtain ⟨ad, c, rfl, _⟩ := id h
  clear h hu
  generalize checkI p = ci at *
  have EC := Lib.hid ec
  clear ec
  obtain ⟨n, hn⟩ : ∃ n, n = p.rows.length := ⟨_, rfl⟩
  rw [← hn] at T0 K1 K2 ⊢
  clear hn
  obtain ⟨a0, a1, a2, a3, a4, a5⟩ := T0.out.six
  unfold pgV pgC at *
  go_enter Tryd.func17, Tryd.ntmps17
  go_wp2_with fail
  refine (K1.out _ T0.out).mono ?_
  rintro e w1 ⟨u, rfl, _, b1⟩
  have T1 := Lib.hid (T0.out.later b1)
  clear b1 T0 a0 a1 a2 a3 a4 a5 K1
  obtain ⟨a0, a1, a2, a3, a4, a5⟩ := T1.out.six
  cases hk : keysB p with
  | false =>
    rw [hk] at EC
    clear K2 hk
    go_wp2_with fail
    go_ret
    exact ⟨by rw [EC.out]; rfl, T1.out.below⟩
  | true =>
    rw [hk] at EC
    clear hk
    go_wp2_with fail
    refine (K2.out _ T1.out).mono ?_
    rintro e w2 ⟨rfl, b2⟩
    have B2 := Lib.hid (T1.out.later b2).below
    clear b2 T1 a0 a1 a2 a3 a4 a5 K2
    cases hm : Page.mayP p with
    | false =>
      rw [hm] at EC
      clear hm
      go_wp2_with fail
      go_ret
      exact ⟨by rw [EC.out]; rfl, B2.out⟩
    | true =>
      rw [hm] at EC
      clear hm
      go_wp2_with fail
      go_ret
      exact ⟨by rw [EC.out]; rfl, B2.out⟩

/-- what key answers -/
def keyT (p : Pg) (at' : Int) : ByteArray := if nodeB p then (if 0 ≤ at' ∧ at' < p.rows.length then kS p.kind (nth p.rows at'.toNat) else ⟨#[]⟩) else ⟨#[]⟩
def keyE (p : Pg) (at' : Int) : Int := if nodeB p then (if 0 ≤ at' ∧ at' < p.rows.length then 0 else 3) else 7

set_option maxRecDepth 100000 in
set_option maxHeartbeats 2000000 in
theorem rkey_any {w : World} {v : Value} (p : Pg) (x : Int) (h : Page.Rows w v p.rows) (hu : used p.rows ≤ 1000000) :
    Calls Tryd.prog 11 #[pgV p v, .int .i64 x] w fun e w' => e = .returned (.tuple #[.string (keyT p x), .int .i64 (keyE p x)]) ∧ Below w.heap.size w w' := by
  have T0 := Lib.hid (Pb.start h)
  have K1 := Lib.hid (fun (W : World) (t : Pb w W w.heap.size p v) => rcheck_any p t.rows hu)
  have H := Lib.hid h
  have U := Lib.hid hu
  obtain ⟨ad, c, rfl, _⟩ := id h
  clear h hu
  obtain ⟨n, hn⟩ : ∃ n, n = p.rows.length := ⟨_, rfl⟩
  have hn2 : n ≤ 250000 := by have := Page.used_len p.rows; have := U.out; omega
  have N := Lib.hid hn
  rw [← hn] at T0 K1 ⊢
  rw [← hn] at H
  clear hn
  have et : keyT p x = if nodeB p then (if 0 ≤ x ∧ x < n then kS p.kind (nth p.rows x.toNat) else ⟨#[]⟩) else ⟨#[]⟩ := by unfold keyT; rw [← N.out]
  have ee : keyE p x = if nodeB p then (if 0 ≤ x ∧ x < n then 0 else 3) else 7 := by unfold keyE; rw [← N.out]
  generalize keyT p x = kt at *
  generalize keyE p x = ke at *
  have ET := Lib.hid et
  have EE := Lib.hid ee
  clear et ee
  have ck : (checkI p != 0) = !nodeB p := check_zero p
  obtain ⟨a0, a1, a2, a3, a4, a5⟩ := T0.out.six
  unfold pgV pgC at *
  cases hk : nodeB p with
  | false =>
    rw [hk] at ET EE ck
    go_enter Tryd.func11, Tryd.ntmps11
    go_wp2_with fail
    refine (K1.out _ T0.out).mono ?_
    rintro e w1 ⟨rfl, b1⟩
    have B1 := Lib.hid (T0.out.later b1).below
    clear b1 T0 a0 a1 a2 a3 a4 a5 K1 hk H
    go_wp2_with fail
    go_ret2
    exact ⟨by rw [ET.out, EE.out]; rfl, B1.out⟩
  | true =>
    rw [hk] at ET EE ck
    by_cases hx : 0 ≤ x ∧ x < n
    · rw [if_pos rfl, if_pos hx] at ET EE
      obtain ⟨k, rfl⟩ : ∃ k : Nat, x = k := ⟨x.toNat, by omega⟩
      have hlt : k < n := by omega
      have hlt2 : k < p.rows.length := by rw [← N.out]; exact hlt
      have hrw : Page.Rows w (.slice ad p.rows.length c) p.rows := by rw [← N.out]; exact H.out
      obtain ⟨b, o, rfl, hb0, hc⟩ := hrw.at hlt2
      have hsz := Page.nth_size hlt2
      rw [Int.toNat_natCast] at ET
      generalize nth p.rows k = S at *
      have hs1 : S.size ≤ 1000000 := by have := U.out; omega
      have K := Lib.hid (fun W => keyof_any p.kind S W (by omega))
      have kmax : k ≤ 250000 := by omega
      generalize kS p.kind S = ks at *
      generalize kB p.kind S = kb at *
      have HC := Lib.hid hc
      have HB0 := Lib.hid hb0
      clear hk hx hlt2 hrw hsz hs1 hc hb0 H U
      go_enter Tryd.func11, Tryd.ntmps11
      go_wp2_with fail
      refine (K1.out _ T0.out).mono ?_
      rintro e w1 ⟨rfl, b1⟩
      have T1 := Lib.hid ((T0.out.later b1).later ((Below.refl _ _).drew))
      have C1 := Lib.hid (show w1.drew.cell? ⟨b, o + k, none⟩ = some (.string S) from (World.cell?_of_block ((T0.out.later b1).below.block b HB0.out)).trans HC.out)
      have HB1 := Lib.hid (show b < w1.heap.size from Nat.lt_of_lt_of_le HB0.out (T0.out.later b1).below.size)
      clear b1 T0 a0 a1 a2 a3 a4 a5 K1 HC HB0
      obtain ⟨a0, a1, a2, a3, a4, a5⟩ := T1.out.six
      have a5' : w1.cell? ⟨w.heap.size, 5, none⟩ = some (.slice (some ⟨b, o, none⟩) n c) := a5
      generalize w.heap.size = g at *
      go_wp2_with fail
      clear a0 a1 a2 a3 a4 a5 a5'
      go_region_held3 (fun w' => w'.cell? ⟨g, 0, none⟩ = some (.int .u8 (p.kind : Int)) ∧ w'.cell? ⟨g, 5, none⟩ = some (.slice (some ⟨b, o, none⟩) n c) ∧ w'.cell? ⟨b, o + k, none⟩ = some (.string S)) (first | exact ⟨T1.out.six.1, T1.out.six.2.2.2.2.2, C1.out⟩ | exact ⟨T2.six.1, T2.six.2.2.2.2.2, c10⟩)
        (first | (go_at_call 38; refine (K.out _).mono ?_; rintro e w2 ⟨rfl, b2⟩; have T2 := T1.out.later b2; have c10 := (World.cell?_of_block (b2.block b HB1.out)).trans C1.out))
      have B2 := Lib.hid T2.below
      clear T2 c10 T1 C1 b2 K
      go_wp2_with fail
      go_ret2
      exact ⟨by rw [ET.out, EE.out]; rfl, B2.out⟩
    · rw [if_pos rfl, if_neg hx] at ET EE
      go_enter Tryd.func11, Tryd.ntmps11
      go_wp2_with fail
      refine (K1.out _ T0.out).mono ?_
      rintro e w1 ⟨rfl, b1⟩
      have T1 := Lib.hid (T0.out.later b1)
      clear b1 T0 a0 a1 a2 a3 a4 a5 K1 hk H
      obtain ⟨a0, a1, a2, a3, a4, a5⟩ := T1.out.six
      have hx2 : x < 0 ∨ (n : Int) ≤ x := by omega
      clear hx
      rcases hx2 with h1 | h1
      · go_wp2_with fail
        go_ret2
        exact ⟨by rw [ET.out, EE.out]; rfl, T1.out.below⟩
      · go_wp2_with fail
        go_ret2
        exact ⟨by rw [ET.out, EE.out]; rfl, T1.out.below⟩

end Go.Proofs.YtbdbnpcbbebelaaDoor.Node

namespace Go.Proofs.YtbdbnpcbbebelaaDoor.Node
open Go.RowKit
open Go.Proofs.YtbdbnpcbbebelaaDoor.Page (Pg nth used pgV pgC)
open Go.Proofs.YtbdbnpcbbebelaaDoor.Row (decR decN okR okE)
open Go.Proofs.YtbdbnpcbbebelaaDoor.Key (cmpOf)
attribute [local go_sem ↓] Go.wp_at_zero Go.wp_at_succ

/-- the first place whose key is not ahead of this one -/
def fndL (l : List ByteArray) (key : ByteArray) : Nat := l.findIdx (fun k => decide (0 ≤ cmpOf k key))
theorem fnd_le (l : List ByteArray) (key : ByteArray) : fndL l key ≤ l.length := List.findIdx_le_length
theorem fnd_at {l : List ByteArray} {key : ByteArray} {k : Nat} (hk : k < l.length) (h : 0 ≤ cmpOf (nth l k) key) (hn : ∀ j, j < k → cmpOf (nth l j) key < 0) : fndL l key = k := by
  unfold fndL
  rw [List.findIdx_eq hk]
  refine ⟨?_, fun j hj => ?_⟩
  · rw [Page.nth_elem hk]; exact decide_eq_true h
  · rw [Page.nth_elem (by omega)]; exact decide_eq_false (by have := hn j hj; omega)
theorem fnd_end {l : List ByteArray} {key : ByteArray} (hn : ∀ j, j < l.length → cmpOf (nth l j) key < 0) : fndL l key = l.length := by
  unfold fndL
  rw [List.findIdx_eq_length]
  intro x hx
  obtain ⟨j, hj, rfl⟩ := List.getElem_of_mem hx
  rw [Page.nth_elem hj]
  exact decide_eq_false (by have := hn j hj; omega)
/-- whether that is it -/
def hitL (l : List ByteArray) (key : ByteArray) : Bool := decide (fndL l key < l.length) && decide (cmpOf (nth l (fndL l key)) key = 0)
def findI (p : Pg) (key : ByteArray) : Nat := if nodeB p then fndL (keysOf p) key else 0
def findB (p : Pg) (key : ByteArray) : Bool := nodeB p && hitL (keysOf p) key
/-- the last of the first k places whose key is not behind this one -/
def lastL (l : List ByteArray) (key : ByteArray) : Nat → Nat
  | 0 => 0
  | k + 1 => if cmpOf (nth l k) key ≤ 0 then k else lastL l key k
theorem last_lt (l : List ByteArray) (key : ByteArray) : ∀ k, lastL l key k ≤ k - 1
  | 0 => Nat.le_refl _
  | k + 1 => by
    unfold lastL
    split
    · exact Nat.le_refl _
    · have := last_lt l key k; omega

/-- the keys are of rows -/
theorem keys_size {p : Pg} (hu : used p.rows ≤ 1000000) {j : Nat} (hj : j < (keysOf p).length) : (nth (keysOf p) j).size ≤ 1000000 := by
  cases hk : keysB p with
  | false =>
    have e : keysOf p = [] := by unfold keysOf; rw [hk]; rfl
    rw [e] at hj
    simp at hj
  | true =>
    have e : keysOf p = keysL p.kind p.rows := by unfold keysOf; rw [hk]; rfl
    rw [e, keys_len] at hj
    rw [e, nth_keys hj]
    exact key_size (by have := Page.nth_size hj; omega)
theorem node_keys {p : Pg} (h : nodeB p = true) : keysB p = true ∧ keysOf p = keysL p.kind p.rows := by
  unfold nodeB at h
  have hk := (Bool.and_eq_true_iff.1 h).1
  exact ⟨hk, by unfold keysOf; rw [hk]; rfl⟩

set_option maxRecDepth 100000 in
set_option maxHeartbeats 4000000 in
theorem rfind_any {w : World} {v : Value} (p : Pg) (key : ByteArray) (h : Page.Rows w v p.rows) (hu : used p.rows ≤ 1000000) (hks : key.size ≤ 140737488351232) :
    Calls Tryd.prog 13 #[pgV p v, .string key] w fun e w' => e = .returned (.tuple #[.int .i64 (findI p key : Int), .bool (findB p key)]) ∧ Below w.heap.size w w' := by
  have T0 := Lib.hid (Pb.start h)
  have K1 := Lib.hid (fun (W : World) (t : Pb w W w.heap.size p v) => rcheck_any p t.rows hu)
  have K2 := Lib.hid (fun (W : World) (t : Pb w W w.heap.size p v) => rkeys_any p t.rows hu)
  have U := Lib.hid hu
  have KS := Lib.hid hks
  obtain ⟨ad, c, rfl, _⟩ := id h
  clear h hu hks
  obtain ⟨n, hn⟩ : ∃ n, n = p.rows.length := ⟨_, rfl⟩
  have hn2 : n ≤ 250000 := by have := Page.used_len p.rows; have := U.out; omega
  have N := Lib.hid hn
  rw [← hn] at T0 K1 K2 ⊢
  clear hn
  have ck : (checkI p != 0) = !nodeB p := check_zero p
  obtain ⟨a0, a1, a2, a3, a4, a5⟩ := T0.out.six
  unfold pgV pgC at *
  cases hk : nodeB p with
  | false =>
    have EI : findI p key = 0 ∧ findB p key = false := by unfold findI findB; rw [hk]; exact ⟨rfl, rfl⟩
    rw [EI.1, EI.2]
    rw [hk] at ck
    clear hk K2 EI
    go_enter Tryd.func13, Tryd.ntmps13
    go_wp2_with fail
    refine (K1.out _ T0.out).mono ?_
    rintro e w1 ⟨rfl, b1⟩
    have B1 := Lib.hid (T0.out.later b1).below
    clear b1 T0 a0 a1 a2 a3 a4 a5 K1
    go_wp2_with fail
    go_ret2
    exact ⟨rfl, B1.out⟩
  | true =>
    have eI : findI p key = fndL (keysOf p) key := by unfold findI; rw [hk]; rfl
    have eB : findB p key = hitL (keysOf p) key := by unfold findB; rw [hk]; rfl
    obtain ⟨_, ek⟩ := node_keys hk
    have KL := Lib.hid (show (keysOf p).length = n by rw [ek, keys_len, ← N.out])
    have KZ := Lib.hid (fun (j : Nat) (hj : j < (keysOf p).length) => keys_size U.out hj)
    rw [eI, eB]
    rw [hk] at ck
    clear hk eI eB ek
    go_enter Tryd.func13, Tryd.ntmps13
    go_wp2_with fail
    refine (K1.out _ T0.out).mono ?_
    rintro e w1 ⟨rfl, b1⟩
    have T1 := Lib.hid (T0.out.later b1)
    clear b1 T0 a0 a1 a2 a3 a4 a5 K1
    obtain ⟨a0, a1, a2, a3, a4, a5⟩ := T1.out.six
    go_wp2_with fail
    refine (K2.out _ T1.out).mono ?_
    rintro e w2 ⟨u, rfl, t2, b2⟩
    have B2 := Lib.hid (T1.out.later b2).below
    obtain ⟨ad2, cap, rfl⟩ := t2.shape
    have TX := Lib.hid t2
    clear b2 T1 a0 a1 a2 a3 a4 a5 K2 t2 ck
    rw [KL.out] at TX ⊢
    go_wp2_with fail
    go_loopw [8] (fun i wr => ∃ k : Nat, k ≤ n ∧ i = .int .i64 (k : Int) ∧ Slot.Tx w1 wr (.slice ad2 n cap) (keysOf p) ∧ Below w.heap.size w wr ∧ ∀ j, j < k → cmpOf (nth (keysOf p) j) key < 0) (fun i _ => n - (intOf i).toNat)
    case atStart => exact ⟨0, by omega, by go_num, TX.out, B2.out, fun j hj => by omega⟩
    case round =>
      obtain ⟨k, hk, rfl, htx, hb, hlow⟩ := hrel
      have HT := Lib.hid htx
      have HB := Lib.hid hb
      have HL := Lib.hid hlow
      clear htx hb hlow TX B2
      by_cases hlt : k < n
      · have hat : Slot.Tx w1 wr (.slice ad2 (keysOf p).length cap) (keysOf p) := by rw [KL.out]; exact HT.out
        obtain ⟨g3, rfl, hc3⟩ := hat.at (k := k) (by rw [KL.out]; exact hlt)
        change wr.cell? ⟨g3, k, none⟩ = some (.string (nth (keysOf p) k)) at hc3
        have hz := KZ.out k (by rw [KL.out]; exact hlt)
        obtain ⟨s, hs⟩ : ∃ s, s = nth (keysOf p) k := ⟨_, rfl⟩
        rw [← hs] at hc3 hz
        have HS := Lib.hid hs
        have KC := Lib.hid (fun W => Key.rcompare_any s key W (by unfold maxLen; omega) (by have := KS.out; unfold maxLen; omega))
        obtain ⟨cm, hcm⟩ : ∃ x, x = cmpOf s key := ⟨_, rfl⟩
        rw [← hcm] at KC
        have CM := Lib.hid hcm
        clear hat hs hcm
        go_wp2_with fail
        refine (KC.out _).mono ?_
        rintro e w3 ⟨rfl, b3⟩
        have HT3 := Lib.hid (HT.out.later b3)
        have HB3 := Lib.hid (HB.out.trans (b3.mono HB.out.size))
        clear hc3 b3 KC HT HB
        by_cases hc0 : 0 ≤ cm
        · have F := fnd_at (l := keysOf p) (key := key) (k := k) (by rw [KL.out]; exact hlt) (by rw [← HS.out, ← CM.out]; exact hc0) HL.out
          have F2 : hitL (keysOf p) key = decide (cm = 0) := by
            unfold hitL
            rw [F, decide_eq_true (by rw [KL.out]; exact hlt), Bool.true_and, ← HS.out, ← CM.out]
          have FF := Lib.hid F
          have FF2 := Lib.hid F2
          clear F F2 HT3
          go_wp2_with fail
          go_ret2
          exact ⟨by rw [FF.out, FF2.out]; rfl, HB3.out⟩
        · have LOW : Hid (∀ j, j < k + 1 → cmpOf (nth (keysOf p) j) key < 0) := Lib.hid fun j hj => by
            by_cases hjk : j < k
            · exact HL.out j hjk
            · obtain rfl : j = k := by omega
              rw [← HS.out, ← CM.out]; omega
          go_wp2_with fail
          go_roundw
          case rel => exact ⟨k + 1, by omega, by go_num, HT3.out, HB3.out, LOW.out⟩
          case measure => simp [intOf]; omega
      · obtain rfl : k = n := by omega
        have F := fnd_end (l := keysOf p) (key := key) (by rw [KL.out]; exact HL.out)
        have F2 : hitL (keysOf p) key = false := by
          unfold hitL
          rw [F, decide_eq_false (Nat.lt_irrefl _), Bool.false_and]
        have FF := Lib.hid F
        have FF2 := Lib.hid F2
        clear F F2
        go_wp2_with fail
        go_ret2
        exact ⟨by rw [FF.out, FF2.out, KL.out]; rfl, HB.out⟩

end Go.Proofs.YtbdbnpcbbebelaaDoor.Node

namespace Go.Proofs.YtbdbnpcbbebelaaDoor.Node
open Go.RowKit
open Go.Proofs.YtbdbnpcbbebelaaDoor.Page (Pg nth used pgV pgC)
open Go.Proofs.YtbdbnpcbbebelaaDoor.Row (decR decN okR okE decF enV enC)
open Go.Proofs.YtbdbnpcbbebelaaDoor.Key (cmpOf)
attribute [local go_sem ↓] Go.wp_at_zero Go.wp_at_succ

/-- what child answers -/
def chB (p : Pg) : Bool := nodeB p && decide (p.kind = 2)
def chI (p : Pg) (key : ByteArray) : Nat := if chB p then lastL (keysOf p) key p.rows.length else 0
def chC (p : Pg) (key : ByteArray) : Nat := if chB p then (decN (nth p.rows (lastL (keysOf p) key p.rows.length))).child else 0
def chE (p : Pg) : Int := if chB p then 0 else 7

set_option maxRecDepth 100000 in
set_option maxHeartbeats 4000000 in
theorem rchild_any {w : World} {v : Value} (p : Pg) (key : ByteArray) (h : Page.Rows w v p.rows) (hu : used p.rows ≤ 1000000) (hks : key.size ≤ 140737488351232) :
    Calls Tryd.prog 15 #[pgV p v, .string key] w fun e w' => e = .returned (.tuple #[.int .u32 (chC p key : Int), .int .i64 (chI p key : Int), .int .i64 (chE p)]) ∧ Below w.heap.size w w' := by
  have T0 := Lib.hid (Pb.start h)
  have K1 := Lib.hid (fun (W : World) (t : Pb w W w.heap.size p v) => rcheck_any p t.rows hu)
  have K2 := Lib.hid (fun (W : World) (t : Pb w W w.heap.size p v) => rkeys_any p t.rows hu)
  have U := Lib.hid hu
  have KS := Lib.hid hks
  have H := Lib.hid h
  obtain ⟨ad, c, rfl, _⟩ := id h
  clear h hu hks
  obtain ⟨n, hn⟩ : ∃ n, n = p.rows.length := ⟨_, rfl⟩
  have hn2 : n ≤ 250000 := by have := Page.used_len p.rows; have := U.out; omega
  have N := Lib.hid hn
  rw [← hn] at T0 K1 K2 H ⊢
  clear hn
  have ck : (checkI p != 0) = !nodeB p := check_zero p
  obtain ⟨a0, a1, a2, a3, a4, a5⟩ := T0.out.six
  unfold pgV pgC at *
  cases hk : nodeB p with
  | false =>
    have EI : chC p key = 0 ∧ chI p key = 0 ∧ chE p = 7 := by unfold chC chI chE chB; rw [hk]; exact ⟨rfl, rfl, rfl⟩
    rw [EI.1, EI.2.1, EI.2.2]
    rw [hk] at ck
    clear hk K2 EI H
    go_enter Tryd.func15, Tryd.ntmps15
    go_wp2_with fail
    refine (K1.out _ T0.out).mono ?_
    rintro e w1 ⟨rfl, b1⟩
    have B1 := Lib.hid (T0.out.later b1).below
    clear b1 T0 a0 a1 a2 a3 a4 a5 K1
    go_wp2_with fail
    go_ret3
    exact ⟨rfl, B1.out⟩
  | true =>
    rw [hk] at ck
    by_cases h2 : p.kind = 2
    · have hb : chB p = true := by unfold chB; rw [hk, decide_eq_true h2]; rfl
      obtain ⟨hkb, ek⟩ := node_keys hk
      have hpos : 1 ≤ n := by
        have : headB p = true := by unfold keysB at hkb; exact (Bool.and_eq_true_iff.1 hkb).1
        rcases head_two this with ⟨e, _⟩ | ⟨_, _, e⟩
        · omega
        · rw [N.out]; exact e
      have KL := Lib.hid (show (keysOf p).length = n by rw [ek, keys_len, ← N.out])
      have KZ := Lib.hid (fun (j : Nat) (hj : j < (keysOf p).length) => keys_size U.out hj)
      have eI : chI p key = lastL (keysOf p) key n := by unfold chI; rw [hb, ← N.out]; rfl
      have eC : chC p key = (decN (nth p.rows (lastL (keysOf p) key n))).child := by unfold chC; rw [hb, ← N.out]; rfl
      have eE : chE p = 0 := by unfold chE; rw [hb]; rfl
      rw [eE]
      have EI := Lib.hid eI
      have EC := Lib.hid eC
      have e2 : ((p.kind : Int) != 2) = false := by simp; omega
      clear hk eI eC eE hb hkb ek h2
      go_enter Tryd.func15, Tryd.ntmps15
      go_wp2_with fail
      refine (K1.out _ T0.out).mono ?_
      rintro e w1 ⟨rfl, b1⟩
      have T1 := Lib.hid (T0.out.later b1)
      clear b1 T0 a0 a1 a2 a3 a4 a5 K1
      obtain ⟨a0, a1, a2, a3, a4, a5⟩ := T1.out.six
      go_wp2_with fail
      refine (K2.out _ T1.out).mono ?_
      rintro e w2 ⟨u, rfl, t2, b2⟩
      have T2 := Lib.hid (T1.out.later b2)
      obtain ⟨ad2, cap, rfl⟩ := t2.shape
      have TX := Lib.hid t2
      clear b2 T1 a0 a1 a2 a3 a4 a5 K2 t2 ck
      rw [KL.out] at TX ⊢
      go_wp2_with fail
      go_loopw [9, 10] (fun x i wr => ∃ k : Nat, k ≤ n ∧ i = .int .i64 (k : Int) ∧ x = .int .i64 (lastL (keysOf p) key k : Int) ∧ Slot.Tx w1 wr (.slice ad2 n cap) (keysOf p) ∧ Pb w wr w.heap.size p (.slice ad n c)) (fun _ i _ => n - (intOf i).toNat)
      case atStart => exact ⟨0, by omega, by go_num, rfl, TX.out, T2.out⟩
      case round =>
        obtain ⟨k, hk, rfl, rfl, htx, hpb⟩ := hrel
        have HT := Lib.hid htx
        have HP := Lib.hid hpb
        clear htx hpb TX T2
        by_cases hlt : k < n
        · have hat : Slot.Tx w1 wr (.slice ad2 (keysOf p).length cap) (keysOf p) := by rw [KL.out]; exact HT.out
          obtain ⟨g3, rfl, hc3⟩ := hat.at (k := k) (by rw [KL.out]; exact hlt)
          change wr.cell? ⟨g3, k, none⟩ = some (.string (nth (keysOf p) k)) at hc3
          have hz := KZ.out k (by rw [KL.out]; exact hlt)
          obtain ⟨s, hs⟩ : ∃ s, s = nth (keysOf p) k := ⟨_, rfl⟩
          rw [← hs] at hc3 hz
          have HS := Lib.hid hs
          have KC := Lib.hid (fun W => Key.rcompare_any s key W (by unfold maxLen; omega) (by have := KS.out; unfold maxLen; omega))
          obtain ⟨cm, hcm⟩ : ∃ x, x = cmpOf s key := ⟨_, rfl⟩
          rw [← hcm] at KC
          have STEP := Lib.hid (show lastL (keysOf p) key (k + 1) = if cm ≤ 0 then k else lastL (keysOf p) key k by rw [hcm, hs]; rfl)
          clear hat hs hcm
          go_wp2_with fail
          refine (KC.out _).mono ?_
          rintro e w3 ⟨rfl, b3⟩
          have HT3 := Lib.hid (HT.out.later b3)
          have HP3 := Lib.hid (HP.out.later b3)
          clear hc3 b3 KC HT HP
          by_cases hc0 : cm ≤ 0
          · rw [if_pos hc0] at STEP
            go_wp2_with fail
            go_roundw
            case rel => exact ⟨k + 1, by omega, by go_num, by rw [STEP.out], HT3.out, HP3.out⟩
            case measure => simp [intOf]; omega
          · rw [if_neg hc0] at STEP
            go_wp2_with fail
            go_roundw
            case rel => exact ⟨k + 1, by omega, by go_num, by rw [STEP.out], HT3.out, HP3.out⟩
            case measure => simp [intOf]; omega
        · obtain rfl : k = n := by omega
          have hl := last_lt (keysOf p) key k
          obtain ⟨m, hm⟩ : ∃ m, m = lastL (keysOf p) key k := ⟨_, rfl⟩
          rw [← hm] at hl EI EC ⊢
          have hlt2 : m < p.rows.length := by rw [← N.out]; omega
          have hmk : m < k := by omega
          have hrw : Page.Rows wr (.slice ad p.rows.length c) p.rows := by rw [← N.out]; exact HP.out.rows
          obtain ⟨b, o, rfl, hb0, hc⟩ := hrw.at hlt2
          have hsz := Page.nth_size hlt2
          generalize nth p.rows m = S at *
          have KD := Lib.hid (fun W => (show Calls Tryd.prog 42 #[.string S] W fun e w' => e = .returned (.tuple #[enV (decN S), .int .i64 (decF S)]) ∧ Below W.heap.size W w' from Row.rdece_any S W (by have := U.out; omega)))
          generalize decN S = en at *
          generalize decF S = ef at *
          unfold enV enC at KD
          obtain ⟨a0, a1, a2, a3, a4, a5⟩ := HP.out.six
          have B := Lib.hid HP.out.below
          have hm2 : m ≤ 250000 := by omega
          clear hm hl hlt2 hrw hsz HT HP H hb0
          go_wp2_with fail
          refine (KD.out _).mono ?_
          rintro e w4 ⟨rfl, b4⟩
          have B4 := Lib.hid ((B.out.trans (b4.mono B.out.size)).trans ((below_new w4 (.cells #[.string en.key, .int .u32 (en.child : Int)] 73)).mono (B.out.trans (b4.mono B.out.size)).size))
          clear b4 B KD a0 a1 a2 a3 a4 a5 hc
          go_wp2_with fail
          go_ret3
          exact ⟨by rw [EI.out, EC.out]; rfl, B4.out⟩
    · have EI : chC p key = 0 ∧ chI p key = 0 ∧ chE p = 7 := by unfold chC chI chE chB; rw [hk, decide_eq_false h2]; exact ⟨rfl, rfl, rfl⟩
      rw [EI.1, EI.2.1, EI.2.2]
      have e2 : ((p.kind : Int) != 2) = true := by simp; omega
      clear hk K2 EI H h2
      go_enter Tryd.func15, Tryd.ntmps15
      go_wp2_with fail
      refine (K1.out _ T0.out).mono ?_
      rintro e w1 ⟨rfl, b1⟩
      have T1 := Lib.hid (T0.out.later b1)
      clear b1 T0 a0 a1 a2 a3 a4 a5 K1
      obtain ⟨a0, a1, a2, a3, a4, a5⟩ := T1.out.six
      go_wp2_with fail
      go_ret3
      exact ⟨rfl, T1.out.below⟩

set_option maxRecDepth 100000 in
set_option maxHeartbeats 1000000 in
theorem rweight_any {w : World} {v : Value} {l : List ByteArray} (h : Page.Rows w v l) (hu : used l ≤ 1000000) :
    Calls Tryd.prog 19 #[v] w fun e w' => e = .returned (.int .i64 (used l : Int)) ∧ w = w' := by
  obtain ⟨ad, c, rfl, _⟩ := id h
  have H := Lib.hid h
  obtain ⟨n, hn⟩ : ∃ n, n = l.length := ⟨_, rfl⟩
  have N := Lib.hid hn
  have hn2 : n ≤ 250000 := by have := Page.used_len l; omega
  have U := Lib.hid hu
  rw [← hn]
  clear h hu hn
  go_enter Tryd.func19, Tryd.ntmps19
  go_wp2_with fail
  go_loop [3, 4] (fun x i => ∃ k m : Nat, k ≤ n ∧ m = used (l.take k) ∧ m ≤ 1000000 ∧ x = .int .i64 (m : Int) ∧ i = .int .i64 (k : Int)) (fun _ i => n - (intOf i).toNat)
  case atStart => exact ⟨0, 0, by omega, rfl, by omega, rfl, rfl⟩
  case round =>
    obtain ⟨k, m, hk, hm, hm2, rfl, rfl⟩ := hrel
    have HM := Lib.hid hm
    clear hm
    by_cases hlt : k < n
    · have hlt2 : k < l.length := by rw [← N.out]; exact hlt
      have hrw : Page.Rows w (.slice ad l.length c) l := by rw [← N.out]; have := H.out; rw [← N.out] at this; exact this
      obtain ⟨b, o, rfl, hb0, hc⟩ := hrw.at hlt2
      have t2 := Page.used_take hlt2
      have t3 := Page.used_take_le l (k + 1)
      obtain ⟨S, hS⟩ : ∃ S, S = nth l k := ⟨_, rfl⟩
      rw [← hS] at hc t2
      have hb1 : m + 4 + S.size ≤ 1000000 := by have := U.out; have := HM.out; omega
      have NX := Lib.hid (show m + 4 + S.size = used (l.take (k + 1)) by have := HM.out; omega)
      clear hrw t2 t3 hS hlt2 hb0
      go_wp2_with fail
      go_round
      case rel => exact ⟨k + 1, m + 4 + S.size, by omega, NX.out, hb1, by go_num, by go_num⟩
      case measure => simp [intOf]; omega
    · obtain rfl : k = n := by omega
      have e1 : used l = m := by
        rw [HM.out, List.take_of_length_le (by rw [← N.out]; exact Nat.le_refl _)]
      have E := Lib.hid e1
      clear e1
      go_wp2_with fail
      go_ret
      exact ⟨by rw [E.out]; rfl, rfl⟩

set_option maxRecDepth 100000 in
theorem rapart_any (a b : Nat) (w : World) (ha : a ≤ 1000000) (hb : b ≤ 1000000) :
    Calls Tryd.prog 53 #[.int .i64 (a : Int), .int .i64 (b : Int)] w fun e w' => e = .returned (.int .i64 ((if a < b then b - a else a - b : Nat) : Int)) ∧ w = w' := by
  by_cases h : a < b
  · have e : ((if a < b then b - a else a - b : Nat) : Int) = (b : Int) - (a : Int) := by rw [if_pos h]; omega
    rw [e]
    clear e
    go_enter Tryd.func53, Tryd.ntmps53
    go_wp2_with fail
    go_ret
    exact ⟨rfl, rfl⟩
  · have e : ((if a < b then b - a else a - b : Nat) : Int) = (a : Int) - (b : Int) := by rw [if_neg h]; omega
    rw [e]
    clear e
    go_enter Tryd.func53, Tryd.ntmps53
    go_wp2_with fail
    go_ret
    exact ⟨rfl, rfl⟩

end Go.Proofs.YtbdbnpcbbebelaaDoor.Node
