/- Walks: frames one behind the other, cut off anywhere. -/
import Derived.Test.YtbcifefldmmaeaaFL0
import Derived.Test.YtbcifefldmmaeaaFS
import Derived.Test.YtbcifefldmmaeaaGN
namespace Go.Proofs.Ytbcifefldmmaeaa.Frame
open Go.RowKit
open Go.Proofs.Ytbcifefldmmaeaa.Strs (rows_tx rows_head CapOk nth nth_take nth_elem)
open Go.Proofs.Ytbcifefldmmaeaa.Slot (Tx)
open Go.Proofs.Ytbcifefldmmaeaa.Ints (In)
attribute [local go_sem ↓] Go.wp_at_zero Go.wp_at_succ

/-- where frames end -/
def ends (l : List ByteArray) (a k : Nat) : List Nat := (List.range k).map fun j => (cat (l.take (j + 1)) a).size
theorem ends_len (l : List ByteArray) (a k : Nat) : (ends l a k).length = k := by simp [ends]
theorem ends_succ (l : List ByteArray) (a k : Nat) : ends l a (k + 1) = ends l a k ++ [(cat (l.take (k + 1)) a).size] := by simp [ends, List.range_succ]
theorem ends_get (l : List ByteArray) (a k : Nat) {j : Nat} (h : j < k) : (ends l a k).getD j 0 = (cat (l.take (j + 1)) a).size := by
  unfold ends
  rw [List.getD_eq_getElem?_getD, List.getElem?_map, List.getElem?_range h]
  rfl
/-- texts of a law's size -/
def okT (l : List ByteArray) : Prop := ∀ x ∈ l, 1 ≤ x.size ∧ x.size ≤ 300
theorem okT.ok {l : List ByteArray} (h : okT l) : okL l := fun x hx => ⟨(h x hx).1, by have := (h x hx).2; omega⟩
theorem cat_le : ∀ (l : List ByteArray) (a : Nat), okT l → 0 < a → (cat l a).size ≤ 314 * l.length := by
  intro l
  induction l with
  | nil => intro a _ _; exact Nat.le_refl _
  | cons s l ih =>
    intro a h ha
    have h1 := enc_size (h.ok.may (List.mem_cons_self ..) ha)
    have h2 := (h s (List.mem_cons_self ..)).2
    have h3 := ih (a + (14 + s.size)) (fun x hx => h x (List.mem_cons_of_mem _ hx)) (by omega)
    show (encF a s ++ cat l (a + (14 + s.size))).size ≤ _
    rw [ByteArray.size_append, List.length_cons]
    omega
/-- the first k are laid -/
structure Laid (l : List ByteArray) (a k : Nat) : Prop where
  le : k ≤ l.length
  ok : okT (l.take k)
theorem Laid.next {l : List ByteArray} {a k : Nat} (h : Laid l a k) (hk : k < l.length) (h1 : 1 ≤ (nth l k).size) (h2 : (nth l k).size ≤ 300) : Laid l a (k + 1) := by
  refine ⟨hk, fun x hx => ?_⟩
  rw [nth_take hk] at hx
  rcases List.mem_append.1 hx with hx | hx
  · exact h.ok x hx
  · have : x = nth l k := by simpa using hx
    subst this
    exact ⟨h1, h2⟩
theorem Laid.cat {l : List ByteArray} {a k : Nat} (h : Laid l a k) (hk : k < l.length) (ha : 0 < a) : Frame.cat (l.take (k + 1)) a = Frame.cat (l.take k) a ++ encF (a + (Frame.cat (l.take k) a).size) (nth l k) := by
  rw [nth_take hk, cat_snoc h.ok.ok ha]
theorem Laid.size {l : List ByteArray} {a k : Nat} (h : Laid l a k) (ha : 0 < a) : (Frame.cat (l.take k) a).size ≤ 314 * k := by
  have := cat_le (l.take k) a h.ok ha
  rw [List.length_take, Nat.min_eq_left h.le] at this
  exact this
/-- all are scanned -/
theorem Laid.all {l : List ByteArray} {a : Nat} (h : Laid l a l.length) (ha : 0 < a) (hb : a + (Frame.cat l a).size < 18446744073709551616) : scn (Frame.cat l a) a = (l, (Frame.cat l a).size, 0) := by
  have ho : okL l := by have := h.ok.ok; rwa [List.take_length] at this
  have e := scn_cat l a ⟨#[]⟩ ho ha hb
  rw [no_right, scn_nil (t := ⟨#[]⟩) rfl, List.append_nil, Nat.add_zero] at e
  exact e
theorem ScnP.out {s : ByteArray} {a : Nat} {w w' : World} {e : Ending} {xs : List ByteArray} {u er : Nat} (h : ScnP s a w e w') (hs : scn s a = (xs, u, er)) :
    ∃ v, e = .returned (.tuple #[v, .int .i64 (u : Int), .int .i64 (er : Int)]) ∧ Tx w w' v xs ∧ Below w.heap.size w w' := by
  obtain ⟨v, h1, h2, h3⟩ := h
  rw [hs] at h1 h2
  exact ⟨v, h1, h2, h3⟩

set_option maxRecDepth 100000 in
set_option maxHeartbeats 4000000 in
theorem cuts_walk {w : World} {l : List ByteArray} {v : Value} {lsn : Nat} {cut : Int} (hr : Strs.Rows w v l ∧ CapOk v) (_hl : l.length ≤ 140737488351232) (hz : ∀ j, j < l.length → (nth l j).size ≤ 140737488351232) (ha : lsn < 18446744073709551616) (hc : 0 ≤ cut ∧ cut ≤ 65535) :
    Calls Try.prog 4 #[v, .int .u64 (lsn : Int), .int .u16 cut] w fun e w' => e = .returned (.bool true) ∧ Below w.heap.size w w' := by
  obtain ⟨ad, c, rfl, _⟩ := id hr.1
  have R := Lib.hid hr.1
  have HH := Lib.hid (fun k (hk : k ≤ l.length) W (b : Below w.heap.size w W) => rows_head (hr.1.later b) hr.2 hk)
  have HZ := Lib.hid hz
  clear hr hz
  by_cases hx : 30 < l.length ∨ lsn = 0 ∨ 4611686018427387904 < lsn
  · have hx : 30 < l.length ∨ (¬ 30 < l.length ∧ ((lsn : Int) == 0) = true) ∨ (¬ 30 < l.length ∧ ((lsn : Int) == 0) = false ∧ decide (4611686018427387904 < (lsn : Int)) = true) := by
      by_cases h1 : 30 < l.length
      · exact .inl h1
      · by_cases h2 : lsn = 0
        · exact .inr (.inl ⟨h1, by rw [h2]; rfl⟩)
        · exact .inr (.inr ⟨h1, by rw [beq_eq_false_iff_ne]; omega, by rw [decide_eq_true_iff]; omega⟩)
    clear R HH HZ ha
    go_enter Try.func4, Try.ntmps4
    rcases hx with hx | ⟨p1, hx⟩ | ⟨p1, p2, hx⟩
    all_goals
      go_wp2_with fail
      refine (works_any _).mono ?_
      rintro e w2 ⟨rfl, k2⟩
      have B2 := Lib.hid k2
      clear k2
      go_wp2_with fail
      go_ret
      exact ⟨rfl, B2.out⟩
  obtain ⟨p1, p2, p3⟩ : ¬ 30 < l.length ∧ 0 < lsn ∧ ¬ 4611686018427387904 < lsn := by omega
  have q2 : ((lsn : Int) == 0) = false := by rw [beq_eq_false_iff_ne]; omega
  have q3 : decide (4611686018427387904 < (lsn : Int)) = false := by rw [decide_eq_false_iff_not]; omega
  have BL := Lib.hid (show lsn ≤ 4611686018427387904 by omega)
  have PL := Lib.hid p2
  have KE := Lib.hid (fun k (hk : k < l.length) n W (hn : n ≤ 100000) => fencode_any (lsn + n) (nth l k) W (by omega) (HZ.out k hk))
  have KS := Lib.hid (fun S W (hS : S.size ≤ 100000) => fscan_any S lsn W (by omega) hS)
  clear hx ha p2 p3 HZ
  obtain ⟨n, hn⟩ : ∃ n, n = l.length := ⟨_, rfl⟩
  have NN := Lib.hid hn
  rw [← hn] at p1 R HH KE
  rw [← hn]
  clear hn _hl
  go_enter Try.func4, Try.ntmps4
  go_wp2_with fail
  clear q2 q3
  go_loopw [7, 8, 9] (fun x y i wr => ∃ (k : Nat) (v : Value), i = .int .i64 k ∧ x = .string (cat (l.take k) lsn) ∧ y = v ∧ Laid l lsn k ∧ In w wr v (ends l lsn k) ∧ Below w.heap.size w wr) (fun _ _ i _ => n - (intOf i).toNat)
  case atStart => exact ⟨0, _, by go_num, by rw [List.take_zero]; rfl, rfl, ⟨Nat.zero_le _, by rw [List.take_zero]; exact fun x hx => by cases hx⟩, In.nil w (Nat.le_refl _), Below.refl _ _⟩
  case round =>
    obtain ⟨k, v, rfl, rfl, rfl, hk, hi, hb⟩ := hrel
    have K := Lib.hid hk
    have I := Lib.hid hi
    have B := Lib.hid hb
    have hkn : k ≤ n := by have := hk.le; have := NN.out; omega
    have hsz : (cat (l.take k) lsn).size ≤ 9420 := by have := hk.size PL.out; omega
    clear hk hi hb
    by_cases hlt : k < n
    · have hkl : k < l.length := by have := NN.out; omega
      have r1 := R.out.later B.out
      rw [NN.out] at r1
      obtain ⟨b1, o1, rfl, _, d1⟩ := r1.at hkl
      clear r1
      have KE1 := Lib.hid (fun W => KE.out k hlt _ W (show (cat (l.take k) lsn).size ≤ 100000 by omega))
      have NX := Lib.hid (fun h1 h2 => K.out.next hkl h1 h2)
      have CT := Lib.hid (K.out.cat hkl PL.out)
      have MY := Lib.hid (fun (h1 : 1 ≤ (nth l k).size) (h2 : (nth l k).size ≤ 300) => (may_iff (lsn := lsn + (cat (l.take k) lsn).size) (s := nth l k)).2 ⟨h1, by omega, by have := PL.out; omega⟩)
      generalize hT : nth l k = T at *
      generalize hS : cat (l.take k) lsn = S at *
      clear hT hS
      by_cases hx : 300 < T.size ∨ T.size = 0
      · clear KE KE1 NX CT MY KS HH I
        have hx : 300 < T.size ∨ (¬ 300 < T.size ∧ T = ⟨#[]⟩) := by
          rcases hx with hx | hx
          · exact .inl hx
          · refine .inr ⟨by omega, L_ext ?_⟩
            have : (L T).length = 0 := hx
            exact List.eq_nil_of_length_eq_zero this
        rcases hx with hx | ⟨h1, rfl⟩
        all_goals
          go_wp2_with fail
          refine (works_any _).mono ?_
          rintro e w2 ⟨rfl, k2⟩
          have B2 := Lib.hid (B.out.trans (k2.mono B.out.size))
          clear k2
          go_wp2_with fail
          go_ret
          exact ⟨rfl, B2.out⟩
      have t1 : 1 ≤ T.size := by omega
      have t2 : T.size ≤ 300 := by omega
      have t3 : ¬ 300 < T.size := by omega
      have n1 := not_empty (s := T) (by omega)
      have n2 : ¬ T.toList = [] := by rw [← List.isEmpty_iff, n1]; decide
      have LN := Lib.hid (NX.out t1 t2)
      have hm := MY.out t1 t2
      have za := enc_size hm
      have ze : encE (lsn + S.size) T = 0 := by unfold encE; rw [if_pos hm]
      rw [ze] at KE1
      have w1 : IntKind.u64.wrap (S.size : Int) = (S.size : Int) := by rw [IntKind.wrap_u64]; omega
      have w2 : IntKind.u64.wrap ((lsn : Int) + (S.size : Int)) = ((lsn + S.size : Nat) : Int) := by have := BL.out; rw [IntKind.wrap_u64]; omega
      clear hx KE KS HH NX MY ze hm
      generalize encF (lsn + S.size) T = A at *
      have f1 : ((A.size : Int) != (T.size : Int) + 14) = false := by rw [bne_eq_false_iff_eq]; omega
      have ZA := Lib.hid za
      have za2 : A.size ≤ 314 := by omega
      have zsa : (S ++ A).size ≤ 100000 := by rw [ByteArray.size_append]; omega
      clear za
      go_wp2_with fail
      refine (KE1.out _).mono ?_
      rintro e w3 ⟨rfl, b3⟩
      have B3 := Lib.hid (B.out.trans (b3.mono B.out.size))
      have I3 := Lib.hid (I.out.later b3)
      have d3 : w3.cell? ⟨b1, o1 + k, none⟩ = some (.string T) := by
        refine (b3.cell (p := ⟨b1, o1 + k, none⟩) ?_).trans d1
        exact World.block_lt_of_cell? _ _ d1
      have B4 := Lib.hid (fun v4 w4 (g4 : (w3.alloc (.cells #[.int .i64 ((S.size : Int) + (A.size : Int))] 3)).grownBy w4 v4) (hv : ∀ x, v4 = some x → w.heap.size ≤ x) => ((B3.out.trans ((below_new w3 (.cells #[.int .i64 ((S.size : Int) + (A.size : Int))] 3)).mono B3.out.size))).grown g4 (Nat.le_trans B3.out.size (by simp)) hv)
      obtain ⟨ad8, c8, rfl⟩ := I3.out.shape
      have LE := Lib.hid (ends_len l lsn k)
      rw [LE.out] at I3 ⊢
      have hk1000 : k ≤ 30 := by omega
      have SR := Lib.hid (show Slot.SrcOf (w3.alloc (.cells #[.int .i64 ((S.size : Int) + (A.size : Int))] 3)) (.slice (some ⟨w3.heap.size, 0, none⟩) 1 1) 1 ([S.size + A.size].map Ints.iv) from Ints.one_src (S.size + A.size))
      clear b3 B I KE1 d1 w1 w2 B3
      go_wp2_with (at_builtin; refine Ints.wpList_app (W0 := w) (news := [S.size + A.size]) rfl _ _ rfl (I3.out.later (below_new _ _)) SR.out (by rw [LE.out]; simp; omega) rfl rfl ?_; intro v4 w4 t4 g4)
      have T4 := Lib.hid t4
      have B5 := Lib.hid (B4.out _ _ g4 (fun x hx => (I3.out.own.lt x hx).1))
      clear t4 g4 B4 I3
      go_wp2_with fail
      go_roundw
      case rel => exact ⟨k + 1, _, by go_num, by rw [CT.out], rfl, LN.out, by rw [ends_succ, CT.out, ByteArray.size_append]; exact T4.out, B5.out⟩
      case measure => simp [intOf]; omega
    · obtain rfl : k = n := by omega
      have et : l.take k = l := List.take_of_length_le (by have := NN.out; omega)
      have LA := Lib.hid (K.out)
      rw [et] at hsz ⊢
      have SA := Lib.hid (show scn (cat l lsn) lsn = (l, (cat l lsn).size, 0) from Laid.all (by rw [← NN.out]; exact LA.out) PL.out (by have := BL.out; omega))
      have OK := Lib.hid (show okL l from by have := LA.out.ok.ok; rwa [et] at this)
      have CU := Lib.hid (fun K m (h1 : K ≤ (cat l lsn).size) (h2 : m ≤ k) h3 h4 => cuts (l := l) (a := lsn) (k := K) (m := m) OK.out PL.out (by have := BL.out; omega) h1 (by rw [← NN.out]; exact h2) h3 h4)
      have KS1 := Lib.hid (fun W => KS.out (cat l lsn) W (by omega))
      clear et KE K LA OK
      obtain ⟨ad8, c8, rfl⟩ := I.out.shape
      have LE := Lib.hid (ends_len l lsn k)
      rw [LE.out] at I ⊢
      obtain ⟨S, hS⟩ : ∃ S, S = cat l lsn := ⟨_, rfl⟩
      rw [← hS] at KS1 SA CU hsz ⊢
      clear hS
      go_wp2_with fail
      refine (KS1.out _).mono ?_
      rintro e w6 h6
      obtain ⟨v6, rfl, t6, b6⟩ := h6.out SA.out
      have B6 := Lib.hid (B.out.trans (b6.mono B.out.size))
      have I6 := Lib.hid (I.out.later b6)
      have R6 := Lib.hid (rows_tx t6)
      obtain ⟨ad6, c6, rfl⟩ := t6.shape
      rw [← NN.out] at R6 ⊢
      clear h6 b6 t6 B I KS1 SA
      have KX := Lib.hid (texts_any l l R6.out (R.out.later B6.out) (by rw [← NN.out]; omega) (by rw [← NN.out]; omega))
      rw [show decide (l = l) = true from decide_eq_true rfl] at KX
      clear R6
      go_wp2_with fail
      refine KX.out.mono ?_
      rintro e w7 ⟨rfl, b7⟩
      have B7 := Lib.hid (B6.out.trans (b7.mono B6.out.size))
      have I7 := Lib.hid (I6.out.later b7)
      clear b7 B6 I6 KX
      obtain ⟨cu, rfl⟩ := Int.eq_ofNat_of_zero_le hc.1
      have hcu : cu ≤ 65535 := by have := hc.2; omega
      obtain ⟨K, hK⟩ : ∃ K, K = cu % (S.size + 1) := ⟨_, rfl⟩
      have hK2 : K ≤ S.size := by have := Nat.mod_lt cu (show 0 < S.size + 1 by omega); omega
      have z0 : IntKind.i64.wrap (cu : Int) = cu := IntWalk.i64_in _ (by omega)
      have z1 : (cu : Int).tmod ((S.size : Int) + 1) = K := by rw [hK, Int.tmod_eq_emod_of_nonneg (by omega)]; rfl
      have z2 : (((S.size : Int) + 1) == 0) = false := by rw [beq_eq_false_iff_ne]; omega
      clear hK hc
      go_wp2_with fail
      clear z0 z1 z2
      go_loop [16, 17, 18] (fun x y i => ∃ m : Nat, m ≤ k ∧ x = .int .i64 m ∧ y = .int .i64 ((cat (l.take m) lsn).size : Int) ∧ i = .int .i64 m ∧ (cat (l.take m) lsn).size ≤ K) (fun _ _ i => k - (intOf i).toNat)
      case atStart => exact ⟨0, Nat.zero_le _, by go_num, by rw [List.take_zero]; rfl, by go_num, by rw [List.take_zero]; exact Nat.zero_le _⟩
      case round =>
        obtain ⟨m, hm, rfl, rfl, rfl, hP⟩ := hrel
        obtain ⟨P, hPe⟩ : ∃ P, P = (cat (l.take m) lsn).size := ⟨_, rfl⟩
        have CM := Lib.hid (fun h => CU.out K m hK2 hm (by rw [← hPe]; rw [← hPe] at hP; exact hP) h)
        rw [← hPe] at CM hP ⊢
        have PE := Lib.hid hPe
        clear hPe CU
        by_cases hgo : m < k ∧ (cat (l.take (m + 1)) lsn).size ≤ K
        · obtain ⟨h1, h2⟩ := hgo
          obtain ⟨g, rfl, d1⟩ := I7.out.at (k := m) (by rw [LE.out]; exact h1)
          rw [ends_get _ _ _ h1] at d1
          unfold Ints.iv at d1
          obtain ⟨E, hE⟩ : ∃ E, E = (cat (l.take (m + 1)) lsn).size := ⟨_, rfl⟩
          rw [← hE] at d1 h2
          have HE := Lib.hid hE
          clear CM hE
          go_wp2_with fail
          go_round
          case rel => exact ⟨m + 1, by omega, by go_num, by rw [HE.out], by go_num, by rw [← HE.out]; exact h2⟩
          case measure => simp [intOf]; omega
        · have hw : (m < k ∧ K < (cat (l.take (m + 1)) lsn).size) ∨ m = k := by omega
          have CS := Lib.hid (CM.out (by rcases hw with hw | hw
                                         · exact .inr hw.2
                                         · exact .inl (by rw [hw, ← NN.out])))
          have KS2 := Lib.hid (fun W => KS.out (S.extract 0 K) W (by rw [ByteArray.size_extract]; omega))
          obtain ⟨x, hx1, hx2, hx3⟩ := HH.out m hm _ B7.out
          have X2 := Lib.hid hx2
          have HT := Lib.hid (show l.take m = l.take m ∧ (l.take m).length ≤ 1000000 from ⟨rfl, by rw [List.length_take]; omega⟩)
          have CT := Lib.hid (show ∃ ways : (m < k ∧ ∃ E, K < E ∧ ∃ g, ad8 = some ⟨g, 0, none⟩ ∧ w7.cell? ⟨g, m, none⟩ = some (.int .i64 (E : Int))) ∨ m = k, True from ⟨by
            rcases hw with ⟨h1, h2⟩ | hw
            · obtain ⟨g, hg, d1⟩ := I7.out.at (k := m) (by rw [LE.out]; exact h1)
              rw [ends_get _ _ _ h1] at d1
              exact .inl ⟨h1, _, h2, g, hg, d1⟩
            · exact .inr hw, trivial⟩)
          clear CM hw hgo hx2 hx3 LE HH KS PE I7
          generalize l.take m = M at *
          obtain ⟨er, her⟩ : ∃ er, er = if P = K then 0 else 6 := ⟨_, rfl⟩
          rw [← her] at CS
          have ER : Hid ((P = K ∧ er = 0) ∨ (((P : Int) == (K : Int)) = false ∧ er = 6)) := by
            refine Lib.hid ?_
            by_cases e : P = K
            · exact .inl ⟨e, by rw [her, if_pos e]⟩
            · exact .inr ⟨by rw [beq_eq_false_iff_ne]; omega, by rw [her, if_neg e]⟩
          clear her
          have hK3 : (K : Int) ≤ (S.size : Int) := by omega
          rcases CT.out.1 with ⟨g1, E, g2, g, rfl, d1⟩ | rfl
          all_goals
            clear CT
            go_wp2_with fail
            refine (KS2.out _).mono ?_
            rintro e w8 h8
            obtain ⟨v8, rfl, t8, b8⟩ := h8.out CS.out
            have B8 := Lib.hid (B7.out.trans (b8.mono B7.out.size))
            have R8 := Lib.hid (rows_tx t8)
            have X8 := Lib.hid (X2.out.later b8)
            obtain ⟨ad9, c9, rfl⟩ := t8.shape
            have KY := Lib.hid (texts_any M M R8.out X8.out HT.out.2 HT.out.2)
            rw [show decide (M = M) = true from decide_eq_true rfl] at KY
            clear h8 b8 t8 KS2 CS R8 X8 X2 B7 HT
            generalize M.length = ml at *
            go_wp2_with fail
            refine KY.out.mono ?_
            rintro e w9 ⟨rfl, b9⟩
            have B9 := Lib.hid (B8.out.trans (b9.mono B8.out.size))
            clear b9 B8 KY hx1
            rcases ER.out with ⟨rfl, rfl⟩ | ⟨f1, rfl⟩
            all_goals
              clear ER
              go_wp2_with fail
              refine (works_any _).mono ?_
              rintro e w10 ⟨rfl, b10⟩
              have B10 := Lib.hid (B9.out.trans (b10.mono B9.out.size))
              clear b10 B9
              go_wp2_with fail
              go_ret
              exact ⟨rfl, B10.out⟩

theorem cuts_law {w : World} {l : List ByteArray} {v : Value} {lsn cut : Int} (hr : Strs.Rows w v l ∧ CapOk v) (hl : l.length ≤ 140737488351232) (hz : ∀ j, j < l.length → (nth l j).size ≤ 140737488351232) (ha : 0 ≤ lsn ∧ lsn ≤ 18446744073709551615) (hc : 0 ≤ cut ∧ cut ≤ 65535) :
    Calls Try.prog 4 #[v, .int .u64 lsn, .int .u16 cut] w fun e w' => e = .returned (.bool true) ∧ Below w.heap.size w w' := by
  obtain ⟨a, rfl⟩ : ∃ a : Nat, lsn = (a : Int) := ⟨lsn.toNat, by omega⟩
  exact cuts_walk hr hl hz (by omega) hc

end Go.Proofs.Ytbcifefldmmaeaa.Frame
