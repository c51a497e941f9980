/-
  Walks: the keys of a node, in the code.
  Walks: what is sought, in the code.
  Walks: check, key, find, child, in the code.
  Walks: child, in the code.
-/
import Derived.Test.YtbdbnpcbbebelaaDoorZ12
namespace Go.Proofs.YtbdbnpcbbebelaaDoor.Node
open Go.RowKit
open Go.Proofs.YtbdbnpcbbebelaaDoor.Page (Pg nth used pgV pgC)
open Go.Proofs.YtbdbnpcbbebelaaDoor.Row (decR decN okR okE decE decF)
open Go.Proofs.YtbdbnpcbbebelaaDoor.Key (cmpOf)
attribute [local go_sem ↓] Go.wp_at_zero Go.wp_at_succ

/-- .. made since an elder world -/
theorem tx_elder {W0 W1 w : World} {v : Value} {l : List ByteArray} (h : Slot.Tx W1 w v l) (hs : W0.heap.size ≤ W1.heap.size) : Slot.Tx W0 w v l := by
  refine ⟨⟨h.own.1, ?_⟩, Nat.le_trans hs h.size⟩
  rcases h.own.2 with e | ⟨g, cap, cur, e1, e2, e3⟩
  · exact .inl e
  · exact .inr ⟨g, cap, cur, e1, Nat.le_trans hs e2, e3⟩

set_option maxRecDepth 100000 in
set_option maxHeartbeats 4000000 in
theorem keys_good {w : World} {v : Value} (p : Pg) (h : Page.Rows w v p.rows) (hu : used p.rows ≤ 1000000) (hb : headB p = true) :
    Calls Tryd.prog 60 #[pgV p v] w (KeysP p w) := by
  obtain ⟨ad, c, rfl, hr⟩ := id h
  obtain ⟨n, hn⟩ : ∃ n, n = p.rows.length := ⟨_, rfl⟩
  have hn2 : n ≤ 250000 := by have := Page.used_len p.rows; omega
  have hk2 : p.kind = 1 ∨ p.kind = 2 := by
    rcases head_two hb with ⟨e, _⟩ | ⟨e, _⟩
    · exact .inl e
    · exact .inr e
  obtain ⟨F, hF⟩ : ∃ F, Reads p.kind F := by
    rcases hk2 with e | e
    · exact ⟨_, ⟨.inl ⟨e, rfl⟩⟩⟩
    · exact ⟨_, ⟨.inr ⟨e, rfl⟩⟩⟩
  have HF := Lib.hid hF
  have hs : shB p = true := by rw [← head_shape hk2]; exact hb
  have N := Lib.hid hn
  have K2 := Lib.hid (fun (W : World) (t : Pb w W w.heap.size p (.slice ad p.rows.length c)) => shaped_any p t.rows)
  rw [hs] at K2
  rw [← hn] at h hr K2 ⊢
  have T0 := Lib.hid (Pb.start h)
  have OLD := Lib.hid (show p.rows ≠ [] → ∀ b o c', (.slice ad n c : Value) = .slice (some ⟨b, o, none⟩) p.rows.length c' → b < w.heap.size from fun hnil b o c' e => by
    simp only [Value.slice.injEq] at e
    obtain ⟨rfl, e2, rfl⟩ := e
    rcases hr with hr | ⟨b', o', e3, hb', _⟩
    · exact absurd hr hnil
    · simp only [Option.some.injEq, Addr.mk.injEq] at e3
      rw [e3.1]; exact hb')
  have NO := Lib.hid (fun (k : Nat) (hk : k < n) (ho : kB p.kind (nth p.rows k) = false) => (show keysB p = false by unfold keysB; rw [upB_bad (by rw [← hn]; exact hk) ho, Bool.and_false]))
  have YES := Lib.hid (fun (ho : ∀ j, j < n → kB p.kind (nth p.rows j) = true) => (show keysB p = risB (keysL p.kind p.rows) n by unfold keysB; rw [hb, ← hn, Bool.true_and]; exact upB_ris (by omega) ho))
  have U := Lib.hid hu
  clear h hr hu hb hn hF hs hk2
  unfold pgV pgC at *
  go_enter Tryd.func60, Tryd.ntmps60
  go_upto_region 1 with fail
  generalize w.alloc _ = W1 at *
  obtain ⟨g, hg⟩ : ∃ g, g = w.heap.size := ⟨_, rfl⟩
  rw [← hg] at T0 K2 ⊢
  have HG := Lib.hid hg
  clear hg
  have P0 := Lib.hid (T0.out.later ((Below.refl _ _).drew))
  clear T0
  go_region_held3 (fun w' => w'.cell? ⟨g, 0, none⟩ = some (.int .u8 (p.kind : Int))) (first | exact P0.out.six.1 | exact P1.six.1)
    (first | (go_at_call 72; refine (readers_any _).mono ?_; rintro e w2 ⟨b, rfl, rd, b2⟩; have P1 := P0.out.later b2; have lk := HF.out.run rd))
  have P2 := Lib.hid P1
  clear P1 P0 lk rd b2
  obtain ⟨a0, a1, a2, a3, a4, a5⟩ := P2.out.six
  go_wp2_with fail
  refine (K2.out _ P2.out).mono ?_
  rintro e w3 ⟨rfl, b3⟩
  have T0 := Lib.hid (P2.out.later b3)
  clear P2 b3 K2 a0 a1 a2 a3 a4 a5
  obtain ⟨a0, a1, a2, a3, a4, a5⟩ := T0.out.six
  have TX0 := Lib.hid (Slot.Tx.nil w T0.out.below.size)
  go_wp2_with fail
  go_loopw [6, 28] (fun v i wr => ∃ (k : Nat) (L : List ByteArray), k ≤ n ∧ i = .int .i64 (k : Int) ∧ L = keysL p.kind (p.rows.take k) ∧ Slot.Tx w wr v L ∧ Pb w wr g p (.slice ad n c) ∧ ∀ j, j < k → kB p.kind (nth p.rows j) = true) (fun _ i _ => n - (intOf i).toNat)
  case atStart => exact ⟨0, [], by omega, by go_num, rfl, TX0.out, T0.out, fun j hj => by omega⟩
  case round =>
    obtain ⟨k, L, hk, rfl, hL, htx, hpb, hup⟩ := hrel
    have HT := Lib.hid htx
    have HP := Lib.hid hpb
    have HU := Lib.hid hup
    have HLL := Lib.hid hL
    clear htx hpb hup TX0 T0 hL
    clear a0 a1 a2 a3 a4 a5
    by_cases hlt : k < n
    · have hlt2 : k < p.rows.length := by rw [← N.out]; exact hlt
      have hrw : Page.Rows wr (.slice ad p.rows.length c) p.rows := by rw [← N.out]; exact HP.out.rows
      obtain ⟨b, o, rfl, hb0, hc⟩ := hrw.at hlt2
      have hsz := Page.nth_size hlt2
      obtain ⟨S, hS⟩ : ∃ S, S = nth p.rows k := ⟨_, rfl⟩
      rw [← hS] at hc hsz
      have hs1 : S.size ≤ 1000000 := by have := U.out; omega
      have K := Lib.hid (fun W => HF.out.call S W (by omega))
      have KSF := Lib.hid (show kS p.kind S = kS p.kind (nth p.rows k) by rw [hS])
      obtain ⟨ad2, cap, rfl⟩ := HT.out.shape
      have eLn : L.length = k := by rw [HLL.out, keys_len, List.length_take]; omega
      rw [eLn] at HT ⊢
      have EL := Lib.hid eLn
      have KB := Lib.hid (show (kE p.kind S != 0) = !kB p.kind (nth p.rows k) by rw [kE_zero, hS])
      clear hrw hsz hS eLn
      generalize kS p.kind S = ks at *
      generalize kE p.kind S = ke at *
      go_wp2_with fail
      rw [HF.out.enters, Oper.upon_enter]
      refine (K.out _).mono ?_
      rintro e w2 ⟨rfl, b2⟩
      have HP2 := Lib.hid (HP.out.later b2)
      have HT2 := Lib.hid (HT.out.later b2)
      clear b2 HT HP K hc
      cases hok : kB p.kind (nth p.rows k) with
      | false =>
        have HN := Lib.hid (NO.out k hlt hok)
        have ke0 : (ke != 0) = true := by rw [KB.out, hok]; rfl
        clear NO YES hok HT2
        go_wp2_with fail
        go_ret2
        exact KeysP.no HN.out HP2.out.below
      | true =>
        have ke0 : (ke != 0) = false := by rw [KB.out, hok]; rfl
        have UP := Lib.hid (show ∀ j, j < k + 1 → kB p.kind (nth p.rows j) = true from fun j hj => by
          by_cases e : j = k
          · subst e; exact hok
          · exact HU.out j (by omega))
        obtain ⟨t1, t2, t3, t4⟩ := app_one (S := ks) HT2.out HP2.out.below (by rw [EL.out]; omega)
        have T1 := Lib.hid t1
        have T2 := Lib.hid t2
        have T3 := Lib.hid t3
        have HP4 := Lib.hid (HP2.out.later (below_new _ (.cells #[.string ks] 9)))
        clear t1 t2 t3 t4 NO YES hok HT2 HP2
        go_wp2_with (first | (refine Slot.wpList_app (W0 := w) (news := [ks]) rfl _ _ rfl T1.out T2.out T3.out rfl rfl ?_; intro v3 w3 t3 g3))
        have HP5 := Lib.hid (HP4.out.grown T1.out g3 OLD.out)
        have HT5 := Lib.hid t3
        clear t3 g3 T1 T2 T3 HP4
        go_wp2_with fail
        go_roundw
        case rel => exact ⟨k + 1, L ++ [ks], by omega, by go_num, by rw [Page.nth_take hlt2, HLL.out, KSF.out]; simp [keysL], HT5.out, HP5.out, UP.out⟩
        case measure => simp [intOf]; omega
    · obtain rfl : k = n := by omega
      have HY := Lib.hid (YES.out HU.out)
      have eL : L = keysL p.kind p.rows := by rw [HLL.out, List.take_of_length_le (by rw [← N.out]; exact Nat.le_refl _)]
      rw [eL] at HT
      have EK := Lib.hid (show (keysL p.kind p.rows).length = k by rw [keys_len, ← N.out])
      have KR := Lib.hid (rising_any (Page.rows_tx HT.out) (by rw [EK.out]; omega))
      clear NO YES eL HLL
      rw [EK.out] at KR
      go_wp2_with fail
      refine KR.out.mono ?_
      rintro e w4 ⟨rfl, b4⟩
      have HT2 := Lib.hid (HT.out.later b4)
      have HP2 := Lib.hid (HP.out.later b4)
      clear b4 HT HP KR
      cases hri : risB (keysL p.kind p.rows) k with
      | false =>
        rw [hri] at HY
        clear hri
        go_wp2_with fail
        go_ret2
        exact KeysP.no HY.out HP2.out.below
      | true =>
        rw [hri] at HY
        clear hri
        go_wp2_with fail
        go_ret2
        exact KeysP.yes HY.out HT2.out HP2.out.below

theorem keys_any {w : World} {v : Value} (p : Pg) (h : Page.Rows w v p.rows) (hk : p.kind < 256) (hu : used p.rows ≤ 1000000) :
    Calls Tryd.prog 60 #[pgV p v] w (KeysP p w) := by
  cases hb : headB p with
  | true => exact keys_good p h hu hb
  | false => exact keys_bad p h hk hb

/-- the keys of a node; none, if it is none -/
def nodeL (p : Pg) : List ByteArray := if nodeB p then keysL p.kind p.rows else []
def NodeP (p : Pg) (w : World) (e : Ending) (w' : World) : Prop := ∃ u, e = .returned (.tuple #[u, .bool (nodeB p)]) ∧ Slot.Tx w w' u (nodeL p) ∧ Below w.heap.size w w'

set_option maxRecDepth 100000 in
set_option maxHeartbeats 2000000 in
theorem node_any {w : World} {v : Value} (p : Pg) (h : Page.Rows w v p.rows) (hk : p.kind < 256) (hu : used p.rows ≤ 1000000) :
    Calls Tryd.prog 36 #[pgV p v] w (NodeP p w) := by
  have T0 := Lib.hid (Pb.start h)
  have K1 := Lib.hid (fun (W : World) (t : Pb w W w.heap.size p v) => Page.may_any p t.rows hu)
  have K2 := Lib.hid (fun (W : World) (t : Pb w W w.heap.size p v) => keys_any p t.rows hk hu)
  have en : nodeB p = (keysB p && Page.mayP p) := rfl
  have el : nodeL p = if nodeB p then keysL p.kind p.rows else [] := rfl
  have ek : keysOf p = if keysB p then keysL p.kind p.rows else [] := rfl
  obtain ⟨ad, c, rfl, _⟩ := id h
  clear h hu hk
  have EN := Lib.hid en
  have EL := Lib.hid el
  have EK := Lib.hid ek
  clear en el ek
  obtain ⟨n, hn⟩ : ∃ n, n = p.rows.length := ⟨_, rfl⟩
  rw [← hn] at T0 K1 K2 ⊢
  clear hn
  obtain ⟨a0, a1, a2, a3, a4, a5⟩ := T0.out.six
  unfold pgV pgC at *
  go_enter Tryd.func36, Tryd.ntmps36
  go_wp2_with fail
  refine (K1.out _ T0.out).mono ?_
  rintro e w1 ⟨rfl, b1⟩
  have T1 := Lib.hid (T0.out.later b1)
  clear b1 T0 a0 a1 a2 a3 a4 a5 K1
  obtain ⟨a0, a1, a2, a3, a4, a5⟩ := T1.out.six
  cases hm : Page.mayP p with
  | false =>
    have e1 : nodeB p = false := by rw [EN.out, hm, Bool.and_false]
    have e2 : nodeL p = [] := by rw [EL.out, e1]; rfl
    have E1 := Lib.hid e1
    have E2 := Lib.hid e2
    clear hm K2 e1 e2
    go_wp2_with fail
    go_ret2
    exact ⟨_, by rw [E1.out]; rfl, by rw [E2.out]; exact Slot.Tx.nil w T1.out.below.size, T1.out.below⟩
  | true =>
    have e1 : nodeB p = keysB p := by rw [EN.out, hm, Bool.and_true]
    have e2 : nodeL p = keysOf p := by rw [EL.out, EK.out, e1]
    have E1 := Lib.hid e1
    have E2 := Lib.hid e2
    clear hm e1 e2
    go_wp2_with fail
    refine (K2.out _ T1.out).mono ?_
    rintro e w2 ⟨u, rfl, t2, b2⟩
    have B2 := Lib.hid (T1.out.later b2).below
    have X2 := Lib.hid (show Slot.Tx w w2 u (nodeL p) by
      rw [E2.out]
      exact tx_elder t2 T1.out.below.size)
    obtain ⟨ad2, cap, rfl⟩ := t2.shape
    clear b2 T1 a0 a1 a2 a3 a4 a5 K2 t2
    go_wp2_with fail
    go_ret2
    exact ⟨_, by rw [E1.out]; rfl, X2.out, B2.out⟩

end Go.Proofs.YtbdbnpcbbebelaaDoor.Node

namespace Go.Proofs.YtbdbnpcbbebelaaDoor.Node
open Go.RowKit
open Go.Proofs.YtbdbnpcbbebelaaDoor.Page (Pg nth used pgV pgC)
open Go.Proofs.YtbdbnpcbbebelaaDoor.Row (decR decN okR okE decE decF enV enC)
open Go.Proofs.YtbdbnpcbbebelaaDoor.Key (cmpOf)
attribute [local go_sem ↓] Go.wp_at_zero Go.wp_at_succ

set_option maxRecDepth 100000 in
set_option maxHeartbeats 2000000 in
theorem bs_any {w : World} {v : Value} {L : List ByteArray} (key : ByteArray) (h : Page.Rows w v L) (hl : L.length ≤ 1000000) (hr : risB L L.length = true) :
    Calls Tryd.prog 62 #[v, .string key, .func (.func 63) #[] #[]] w fun e w' => e = .returned (.tuple #[.int .i64 (fndL L key : Int), .bool (hitL L key)]) ∧ w = w' := by
  obtain ⟨ad, c, rfl, _⟩ := id h
  have H := Lib.hid h
  have LOW := Lib.hid (fun (k : Nat) (hk : k < L.length) (hc : cmpOf (nth L k) key < 0) => (show k + 1 ≤ fndL L key by
    by_cases e : k < fndL L key
    · exact e
    · have := fnd_up (key := key) hr (j := k) (by omega) hk
      omega))
  have UP := Lib.hid (fun (k : Nat) (hc : ¬ cmpOf (nth L k) key < 0) => (show fndL L key ≤ k by
    by_cases e : k < fndL L key
    · exact absurd (fnd_low e) hc
    · omega))
  have hfl := fnd_le L key
  have HIT := Lib.hid (show hitL L key = (decide (fndL L key < L.length) && decide (cmpOf (nth L (fndL L key)) key = 0)) from rfl)
  obtain ⟨n, hn⟩ : ∃ n, n = L.length := ⟨_, rfl⟩
  rw [← hn] at H LOW HIT hfl hl ⊢
  have N := Lib.hid hn
  obtain ⟨f, hf⟩ : ∃ f, f = fndL L key := ⟨_, rfl⟩
  rw [← hf] at LOW UP HIT hfl ⊢
  have FF := Lib.hid hf
  clear h hn hr hf
  go_enter Tryd.func62, Tryd.ntmps62
  go_wp2_with fail
  go_loop [9, 10] (fun x y => ∃ i j : Nat, i ≤ f ∧ f ≤ j ∧ j ≤ n ∧ x = .int .i64 (i : Int) ∧ y = .int .i64 (j : Int)) (fun x y => (intOf y).toNat - (intOf x).toNat)
  case atStart => exact ⟨0, n, by omega, by omega, by omega, by go_num, by go_num⟩
  case round =>
    obtain ⟨i, j, hi, hj, hjn, rfl, rfl⟩ := hrel
    by_cases hlt : i < j
    · obtain ⟨m, hm⟩ : ∃ m : Nat, m = (i + j) / 2 := ⟨_, rfl⟩
      have hm1 : i ≤ m := by omega
      have hm2 : m < j := by omega
      have hmi : ((i : Int) + (j : Int)) / 2 = (m : Int) := by omega
      have hrw : Page.Rows w (.slice ad L.length c) L := by rw [← N.out]; exact H.out
      obtain ⟨b, o, rfl, hb0, hc⟩ := hrw.at (k := m) (by rw [← N.out]; omega)
      have LW := Lib.hid (LOW.out m (by omega))
      have UPP := Lib.hid (UP.out m)
      generalize nth L m = S at *
      have KC := Lib.hid (fun W => Key.compare_any S key W)
      change Hid (∀ W, Calls Tryd.prog 63 #[.string S, .string key] W fun e w' => e = .returned (.int .i64 (cmpOf S key)) ∧ W = w') at KC
      generalize cmpOf S key = cm at *
      have hmn : m < n := by omega
      clear hrw hb0 hm LOW UP
      go_wp2_with fail
      refine (KC.out _).mono ?_
      rintro e w1 ⟨rfl, rfl⟩
      by_cases h0 : cm < 0
      · have g1 := LW.out h0
        go_wp2_with fail
        go_round
        case rel => exact ⟨m + 1, j, by omega, by omega, by omega, by go_num, by go_num⟩
        case measure => simp [intOf]; omega
      · have g1 := UPP.out (by omega)
        go_wp2_with fail
        go_round
        case rel => exact ⟨i, m, by omega, by omega, by omega, by go_num, by go_num⟩
        case measure => simp [intOf]; omega
    · obtain rfl : i = j := by omega
      obtain rfl : i = f := by omega
      clear LOW UP
      by_cases hin : i < n
      · have hrw : Page.Rows w (.slice ad L.length c) L := by rw [← N.out]; exact H.out
        obtain ⟨b, o, rfl, hb0, hc⟩ := hrw.at (k := i) (by rw [← N.out]; omega)
        rw [decide_eq_true hin, Bool.true_and] at HIT
        generalize nth L i = S at *
        have KC := Lib.hid (fun W => Key.compare_any S key W)
        change Hid (∀ W, Calls Tryd.prog 63 #[.string S, .string key] W fun e w' => e = .returned (.int .i64 (cmpOf S key)) ∧ W = w') at KC
        generalize cmpOf S key = cm at *
        clear hrw hb0
        go_wp2_with fail
        refine (KC.out _).mono ?_
        rintro e w1 ⟨rfl, rfl⟩
        go_wp2_with fail
        go_ret2
        exact ⟨by rw [HIT.out]; rfl, rfl⟩
      · rw [decide_eq_false hin, Bool.false_and] at HIT
        go_wp2_with fail
        go_ret2
        exact ⟨by rw [HIT.out]; rfl, rfl⟩

set_option maxRecDepth 100000 in
set_option maxHeartbeats 1000000 in
theorem search_any {w : World} {v : Value} {L : List ByteArray} (key : ByteArray) (h : Page.Rows w v L) (hl : L.length ≤ 1000000) (hr : risB L L.length = true) :
    Calls Tryd.prog 39 #[v, .string key] w fun e w' => e = .returned (.tuple #[.int .i64 (fndL L key : Int), .bool (hitL L key)]) ∧ w = w' := by
  have K := Lib.hid (bs_any key h hl hr)
  obtain ⟨ad, c, rfl, _⟩ := id h
  clear h hl hr
  generalize L.length = n at *
  generalize fndL L key = f at *
  generalize hitL L key = t at *
  go_enter Tryd.func39, Tryd.ntmps39
  go_wp2_with fail
  refine K.out.mono ?_
  rintro e w1 ⟨rfl, rfl⟩
  go_wp2_with fail
  go_ret2
  exact ⟨rfl, rfl⟩

end Go.Proofs.YtbdbnpcbbebelaaDoor.Node

namespace Go.Proofs.YtbdbnpcbbebelaaDoor.Node
open Go.RowKit
open Go.Proofs.YtbdbnpcbbebelaaDoor.Page (Pg nth used pgV pgC)
open Go.Proofs.YtbdbnpcbbebelaaDoor.Row (decR decN okR okE decE decF enV enC)
open Go.Proofs.YtbdbnpcbbebelaaDoor.Key (cmpOf)
attribute [local go_sem ↓] Go.wp_at_zero Go.wp_at_succ

theorem node_ris {p : Pg} (h : nodeB p = true) : risB (keysL p.kind p.rows) p.rows.length = true := by
  have hk := (node_keys h).1
  unfold keysB at hk
  have hu := (Bool.and_eq_true_iff.1 hk).2
  rw [← upB_ris (Nat.le_refl _) (fun j hj => upB_kB hu hj)]
  exact hu
theorem nodeL_ris (p : Pg) : risB (nodeL p) (nodeL p).length = true := by
  unfold nodeL
  cases h : nodeB p with
  | false => rfl
  | true =>
    have := node_ris h
    rw [if_pos rfl, keys_len]
    exact this
theorem nodeL_len (p : Pg) : (nodeL p).length = if nodeB p then p.rows.length else 0 := by
  unfold nodeL
  cases h : nodeB p with
  | false => rfl
  | true => rw [if_pos rfl, if_pos rfl, keys_len]
theorem nodeL_le (p : Pg) (hu : used p.rows ≤ 1000000) : (nodeL p).length ≤ 250000 := by
  rw [nodeL_len]
  have := Page.used_len p.rows
  split <;> omega
theorem find_nodeL (p : Pg) (key : ByteArray) : fndL (nodeL p) key = findI p key ∧ hitL (nodeL p) key = findB p key := by
  unfold findI findB nodeL
  cases h : nodeB p with
  | false => exact ⟨rfl, rfl⟩
  | true => rw [(node_keys h).2]; exact ⟨rfl, rfl⟩

set_option maxRecDepth 100000 in
set_option maxHeartbeats 1000000 in
theorem check_any {w : World} {v : Value} (p : Pg) (h : Page.Rows w v p.rows) (hk : p.kind < 256) (hu : used p.rows ≤ 1000000) :
    Calls Tryd.prog 16 #[pgV p v] w fun e w' => e = .returned (.int .i64 (checkI p)) ∧ Below w.heap.size w w' := by
  have T0 := Lib.hid (Pb.start h)
  have K1 := Lib.hid (fun (W : World) (t : Pb w W w.heap.size p v) => node_any p t.rows hk hu)
  have ec : checkI p = if nodeB p then 0 else 7 := rfl
  obtain ⟨ad, c, rfl, _⟩ := id h
  clear h hu hk
  generalize checkI p = ci at *
  have EC := Lib.hid ec
  clear ec
  obtain ⟨n, hn⟩ : ∃ n, n = p.rows.length := ⟨_, rfl⟩
  rw [← hn] at T0 K1 ⊢
  clear hn
  obtain ⟨a0, a1, a2, a3, a4, a5⟩ := T0.out.six
  unfold pgV pgC at *
  go_enter Tryd.func16, Tryd.ntmps16
  go_wp2_with fail
  refine (K1.out _ T0.out).mono ?_
  rintro e w1 ⟨u, rfl, _, b1⟩
  have T1 := Lib.hid (T0.out.later b1).below
  clear b1 T0 a0 a1 a2 a3 a4 a5 K1
  cases hk : nodeB p with
  | false =>
    rw [hk] at EC
    clear hk
    go_wp2_with fail
    go_ret
    exact ⟨by rw [EC.out]; rfl, T1.out⟩
  | true =>
    rw [hk] at EC
    clear hk
    go_wp2_with fail
    go_ret
    exact ⟨by rw [EC.out]; rfl, T1.out⟩

set_option maxRecDepth 100000 in
set_option maxHeartbeats 2000000 in
theorem key_any {w : World} {v : Value} (p : Pg) (x : Int) (h : Page.Rows w v p.rows) (hk : p.kind < 256) (hu : used p.rows ≤ 1000000) :
    Calls Tryd.prog 10 #[pgV p v, .int .i64 x] w fun e w' => e = .returned (.tuple #[.string (keyT p x), .int .i64 (keyE p x)]) ∧ Below w.heap.size w w' := by
  have T0 := Lib.hid (Pb.start h)
  have K1 := Lib.hid (fun (W : World) (t : Pb w W w.heap.size p v) => node_any p t.rows hk hu)
  have hn1 : p.rows.length ≤ 1000000 := by have := Page.used_len p.rows; omega
  have K2 := Lib.hid (fun (W : World) (t : Pb w W w.heap.size p v) => isrow_any p x t.rows hn1)
  obtain ⟨ad, c, rfl, _⟩ := id h
  clear h hu hk
  obtain ⟨n, hn⟩ : ∃ n, n = p.rows.length := ⟨_, rfl⟩
  have N := Lib.hid hn
  rw [← hn] at T0 K1 K2 hn1 ⊢
  clear hn
  have et : keyT p x = if nodeB p then (if 0 ≤ x ∧ x < n then kS p.kind (nth p.rows x.toNat) else ⟨#[]⟩) else ⟨#[]⟩ := by unfold keyT; rw [← N.out]
  have ee : keyE p x = if nodeB p then (if 0 ≤ x ∧ x < n then 0 else 3) else 7 := by unfold keyE; rw [← N.out]
  generalize keyT p x = kt at *
  generalize keyE p x = ke at *
  have ET := Lib.hid et
  have EE := Lib.hid ee
  clear et ee
  obtain ⟨a0, a1, a2, a3, a4, a5⟩ := T0.out.six
  unfold pgV pgC at *
  go_enter Tryd.func10, Tryd.ntmps10
  go_wp2_with fail
  refine (K1.out _ T0.out).mono ?_
  rintro e w1 ⟨u, rfl, t1, b1⟩
  have T1 := Lib.hid (T0.out.later b1)
  have X1 := Lib.hid t1
  clear b1 T0 a0 a1 a2 a3 a4 a5 K1 t1
  obtain ⟨a0, a1, a2, a3, a4, a5⟩ := T1.out.six
  cases hk : nodeB p with
  | false =>
    rw [hk] at ET EE
    clear hk K2
    go_wp2_with fail
    go_ret2
    exact ⟨by rw [ET.out, EE.out]; rfl, T1.out.below⟩
  | true =>
    rw [hk, if_pos rfl] at ET EE
    have eL : nodeL p = keysL p.kind p.rows := by unfold nodeL; rw [hk]; rfl
    rw [eL] at X1
    clear eL hk
    go_wp2_with fail
    refine (K2.out _ T1.out).mono ?_
    rintro e w2 ⟨rfl, b2⟩
    have T2 := Lib.hid (T1.out.later b2).below
    have X2 := Lib.hid (X1.out.later b2)
    clear b2 T1 X1 a0 a1 a2 a3 a4 a5 K2
    by_cases hx : 0 ≤ x ∧ x < (n : Int)
    · rw [decide_eq_true hx]
      rw [if_pos hx] at ET EE
      obtain ⟨k, rfl⟩ : ∃ k : Nat, x = k := ⟨x.toNat, by omega⟩
      have hlt : k < n := by omega
      obtain ⟨ad2, cap, rfl⟩ := X2.out.shape
      obtain ⟨g, rfl, hc⟩ := X2.out.at (k := k) (by rw [keys_len, ← N.out]; exact hlt)
      have ekl : (keysL p.kind p.rows).length = n := by rw [keys_len, ← N.out]
      have ek : (keysL p.kind p.rows).getD k ⟨#[]⟩ = kt := by
        rw [ET.out, Int.toNat_natCast]
        exact nth_keys (by rw [← N.out]; exact hlt)
      rw [ek] at hc
      rw [ekl]
      clear ek ekl X2 hx ET N
      go_wp2_with fail
      go_ret2
      exact ⟨by rw [EE.out]; rfl, T2.out⟩
    · rw [decide_eq_false hx]
      rw [if_neg hx] at ET EE
      clear hx X2
      go_wp2_with fail
      go_ret2
      exact ⟨by rw [ET.out, EE.out]; rfl, T2.out⟩

set_option maxRecDepth 100000 in
set_option maxHeartbeats 2000000 in
theorem find_any {w : World} {v : Value} (p : Pg) (key : ByteArray) (h : Page.Rows w v p.rows) (hk : p.kind < 256) (hu : used p.rows ≤ 1000000) :
    Calls Tryd.prog 12 #[pgV p v, .string key] w fun e w' => e = .returned (.tuple #[.int .i64 (findI p key : Int), .bool (findB p key)]) ∧ Below w.heap.size w w' := by
  have T0 := Lib.hid (Pb.start h)
  have K1 := Lib.hid (fun (W : World) (t : Pb w W w.heap.size p v) => node_any p t.rows hk hu)
  have K2 := Lib.hid (fun (W W0 : World) (u : Value) (t : Slot.Tx W0 W u (nodeL p)) => search_any key (Page.rows_tx t) (by have := nodeL_le p hu; omega) (nodeL_ris p))
  obtain ⟨e1, e2⟩ := find_nodeL p key
  rw [e1, e2] at K2
  obtain ⟨ad, c, rfl, _⟩ := id h
  clear h hu hk e1 e2
  generalize p.rows.length = n at *
  generalize findI p key = fi at *
  generalize findB p key = fb at *
  obtain ⟨a0, a1, a2, a3, a4, a5⟩ := T0.out.six
  unfold pgV pgC at *
  go_enter Tryd.func12, Tryd.ntmps12
  go_wp2_with fail
  refine (K1.out _ T0.out).mono ?_
  rintro e w1 ⟨u, rfl, t1, b1⟩
  have T1 := Lib.hid (T0.out.later b1).below
  have K3 := Lib.hid (K2.out _ _ _ t1)
  clear b1 T0 a0 a1 a2 a3 a4 a5 K1 t1 K2
  go_wp2_with fail
  refine K3.out.mono ?_
  rintro e w2 ⟨rfl, rfl⟩
  go_wp2_with fail
  go_ret2
  exact ⟨rfl, T1.out⟩

end Go.Proofs.YtbdbnpcbbebelaaDoor.Node

namespace Go.Proofs.YtbdbnpcbbebelaaDoor.Node
open Go.RowKit
open Go.Proofs.YtbdbnpcbbebelaaDoor.Page (Pg nth used pgV pgC)
open Go.Proofs.YtbdbnpcbbebelaaDoor.Row (decR decN okR okE decE decF enV enC)
open Go.Proofs.YtbdbnpcbbebelaaDoor.Key (cmpOf)
attribute [local go_sem ↓] Go.wp_at_zero Go.wp_at_succ

theorem node_kB {p : Pg} (h : nodeB p = true) {j : Nat} (hj : j < p.rows.length) : kB p.kind (nth p.rows j) = true := by
  have hk := (node_keys h).1
  unfold keysB at hk
  exact upB_kB (Bool.and_eq_true_iff.1 hk).2 hj
theorem inner_pos {p : Pg} (h : nodeB p = true) (h2 : p.kind = 2) : 0 < p.rows.length := by
  have hk := (node_keys h).1
  unfold keysB at hk
  rcases head_two (Bool.and_eq_true_iff.1 hk).1 with ⟨e, _⟩ | ⟨_, _, e⟩
  · omega
  · omega

set_option maxRecDepth 100000 in
set_option maxHeartbeats 4000000 in
theorem child_any {w : World} {v : Value} (p : Pg) (key : ByteArray) (h : Page.Rows w v p.rows) (hk : p.kind < 256) (hu : used p.rows ≤ 1000000) :
    Calls Tryd.prog 14 #[pgV p v, .string key] w fun e w' => e = .returned (.tuple #[.int .u32 (chC p key : Int), .int .i64 (chI p key : Int), .int .i64 (chE p)]) ∧ Below w.heap.size w w' := by
  have T0 := Lib.hid (Pb.start h)
  have K1 := Lib.hid (fun (W : World) (t : Pb w W w.heap.size p v) => node_any p t.rows hk hu)
  have K2 := Lib.hid (fun (W W0 : World) (u : Value) (t : Slot.Tx W0 W u (nodeL p)) => search_any key (Page.rows_tx t) (by have := nodeL_le p hu; omega) (nodeL_ris p))
  have U := Lib.hid hu
  have H := Lib.hid h
  obtain ⟨ad, c, rfl, _⟩ := id h
  clear h hu hk
  obtain ⟨n, hn⟩ : ∃ n, n = p.rows.length := ⟨_, rfl⟩
  have hn2 : n ≤ 250000 := by have := Page.used_len p.rows; have := U.out; omega
  have N := Lib.hid hn
  rw [← hn] at T0 K1 H ⊢
  clear hn
  obtain ⟨a0, a1, a2, a3, a4, a5⟩ := T0.out.six
  unfold pgV pgC at *
  cases hk : nodeB p with
  | false =>
    have EI : chC p key = 0 ∧ chI p key = 0 ∧ chE p = 7 := by unfold chC chI chE chB; rw [hk]; exact ⟨rfl, rfl, rfl⟩
    rw [EI.1, EI.2.1, EI.2.2]
    have HK := Lib.hid hk
    clear hk K2 EI H
    go_enter Tryd.func14, Tryd.ntmps14
    go_wp2_with fail
    refine (K1.out _ T0.out).mono ?_
    rintro e w1 ⟨u, rfl, _, b1⟩
    rw [HK.out]
    have B1 := Lib.hid (T0.out.later b1).below
    clear b1 T0 a0 a1 a2 a3 a4 a5 K1
    go_wp2_with fail
    go_ret3
    exact ⟨rfl, B1.out⟩
  | true =>
    by_cases h2 : p.kind = 2
    · have hb : chB p = true := by unfold chB; rw [hk, decide_eq_true h2]; rfl
      have hpos : 0 < n := by rw [N.out]; exact inner_pos hk h2
      have eNL : nodeL p = keysL p.kind p.rows := by unfold nodeL; rw [hk]; rfl
      have eKO : keysOf p = nodeL p := by rw [eNL]; exact (node_keys hk).2
      have LEN : (nodeL p).length = n := by rw [eNL, keys_len, ← N.out]
      have LF := last_fnd (key := key) (nodeL_ris p) (by rw [LEN]; exact hpos)
      rw [LEN] at LF
      have ml := last_lt (nodeL p) key n
      have fl := fnd_le (nodeL p) key
      rw [LEN] at fl
      have hitl : hitL (nodeL p) key = true → fndL (nodeL p) key < n := fun e => by
        unfold hitL at e
        rw [LEN] at e
        exact of_decide_eq_true (Bool.and_eq_true_iff.1 e).1
      have eI : chI p key = lastL (nodeL p) key n := by unfold chI; rw [hb, ← N.out, eKO]; rfl
      have eC : chC p key = (decN (nth p.rows (lastL (nodeL p) key n))).child := by unfold chC; rw [hb, ← N.out, eKO]; rfl
      have eE : chE p = 0 := by unfold chE; rw [hb]; rfl
      rw [eE]
      have EI := Lib.hid eI
      have EC := Lib.hid eC
      have HK := Lib.hid hk
      have e2 : ((p.kind : Int) != 2) = false := by simp; omega
      have OKE := Lib.hid (fun (j : Nat) (hj : j < n) => (show decF (nth p.rows j) = 0 by
        have := node_kB hk (j := j) (by rw [← N.out]; exact hj)
        unfold kB at this
        rw [if_neg (by omega)] at this
        rw [← ent_zero] at this
        simpa using this))
      clear hk eI eC eE hb h2 eNL eKO LEN
      generalize lastL (nodeL p) key n = m at *
      generalize fndL (nodeL p) key = f at *
      generalize hitL (nodeL p) key = hh at *
      have HLF := Lib.hid LF
      have hmn : m < n := by omega
      clear LF ml
      go_enter Tryd.func14, Tryd.ntmps14
      go_wp2_with fail
      refine (K1.out _ T0.out).mono ?_
      rintro e w1 ⟨u, rfl, t1, b1⟩
      rw [HK.out]
      have T1 := Lib.hid (T0.out.later b1)
      have K3 := Lib.hid (K2.out _ _ _ t1)
      clear b1 T0 a0 a1 a2 a3 a4 a5 K1 K2 t1
      obtain ⟨a0, a1, a2, a3, a4, a5⟩ := T1.out.six
      go_wp2_with fail
      refine K3.out.mono ?_
      rintro e w2 ⟨rfl, rfl⟩
      clear K3
      go_upto_if 30 with fail
      go_cut [5] (fun s wx => s = .int .i64 (m : Int) ∧ wx = w1)
      case first =>
        cases hh with
        | true =>
          have := HLF.out
          rw [if_pos rfl] at this
          subst this
          clear HLF hitl
          go_wp2_with fail
          go_meet
          exact ⟨rfl, rfl⟩
        | false =>
          have e := HLF.out
          rw [if_neg (by decide)] at e
          clear HLF hitl
          by_cases hf : f = 0
          · subst hf
            obtain rfl : m = 0 := by omega
            clear e
            go_wp2_with fail
            go_meet
            exact ⟨rfl, rfl⟩
          · obtain ⟨j, rfl⟩ : ∃ j, f = j + 1 := ⟨f - 1, by omega⟩
            obtain rfl : m = j := by omega
            have e1 : ((m + 1 : Nat) : Int) = (m : Int) + 1 := by omega
            rw [e1]
            clear e hf
            go_wp2_with fail
            go_meet
            exact ⟨by go_num, rfl⟩
      case rest =>
        obtain ⟨rfl, rfl⟩ := hcut
        have hlt2 : m < p.rows.length := by rw [← N.out]; omega
        have hrw : Page.Rows wc (.slice ad p.rows.length c) p.rows := by rw [← N.out]; exact T1.out.rows
        obtain ⟨b, o, rfl, hb0, hc⟩ := hrw.at hlt2
        have hsz := Page.nth_size hlt2
        have hd0 := OKE.out m hmn
        generalize nth p.rows m = S at *
        have KD := Lib.hid (fun W => (show Calls Tryd.prog 41 #[.string S] W fun e w' => e = .returned (.tuple #[enV (decN S), .int .i64 (decF S)]) ∧ Below W.heap.size W w' from Row.dece_any S W (by have := U.out; omega)))
        rw [hd0] at KD
        generalize decN S = en at *
        unfold enV enC at KD
        have B := Lib.hid T1.out.below
        have hm2 : m ≤ 250000 := by omega
        clear hlt2 hrw hsz T1 H hb0 hd0 OKE HLF hitl
        go_wp2_with fail
        refine (KD.out _).mono ?_
        rintro e w4 ⟨rfl, b4⟩
        have B4 := Lib.hid ((B.out.trans (b4.mono B.out.size)).trans ((below_new w4 (.cells #[.string en.key, .int .u32 (en.child : Int)] 73)).mono (B.out.trans (b4.mono B.out.size)).size))
        clear b4 B KD a0 a1 a2 a3 a4 a5 hc
        go_wp2_with fail
        go_ret3
        exact ⟨by rw [EI.out, EC.out]; rfl, B4.out⟩
    · have EI : chC p key = 0 ∧ chI p key = 0 ∧ chE p = 7 := by unfold chC chI chE chB; rw [hk, decide_eq_false h2]; exact ⟨rfl, rfl, rfl⟩
      rw [EI.1, EI.2.1, EI.2.2]
      have e2 : ((p.kind : Int) != 2) = true := by simp; omega
      have HK := Lib.hid hk
      clear hk K2 EI H h2
      go_enter Tryd.func14, Tryd.ntmps14
      go_wp2_with fail
      refine (K1.out _ T0.out).mono ?_
      rintro e w1 ⟨u, rfl, _, b1⟩
      rw [HK.out]
      have T1 := Lib.hid (T0.out.later b1)
      clear b1 T0 a0 a1 a2 a3 a4 a5 K1
      obtain ⟨a0, a1, a2, a3, a4, a5⟩ := T1.out.six
      go_wp2_with fail
      go_ret3
      exact ⟨rfl, T1.out.below⟩

end Go.Proofs.YtbdbnpcbbebelaaDoor.Node
