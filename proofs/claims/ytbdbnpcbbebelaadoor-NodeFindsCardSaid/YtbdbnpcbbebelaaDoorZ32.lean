/-
  Walks: NodeFinds.
-/
import Derived.Laws.AppendOwn
import Derived.Test.YtbdbnpcbbebelaaDoorZ31
namespace Go.Proofs.YtbdbnpcbbebelaaDoor.Node
open Go.RowKit
open Go.Proofs.YtbdbnpcbbebelaaDoor.Page (Pg nth used pgV pgC CapOk zeroP InPg heavyB sameB)
open Go.Proofs.YtbdbnpcbbebelaaDoor.Row (Rw En encS entS decR decN okR okE mayR mayE)
open Go.Proofs.YtbdbnpcbbebelaaDoor.Key (cmpOf)
attribute [local go_sem ↓] Go.wp_at_zero Go.wp_at_succ

/-! ### entries of one's own -/
def enCs (l : List En) : List Value := l.flatMap fun e => [.string e.key, .int .u32 (e.child : Int)]
theorem enCs_len (l : List En) : (enCs l).length = l.length * 2 := by
  unfold enCs
  induction l with
  | nil => rfl
  | cons a l ih => rw [List.flatMap_cons, List.length_append, ih, List.length_cons]; simp; omega
theorem enCs_app (l : List En) (e : En) : enCs (l ++ [e]) = enCs l ++ [.string e.key, .int .u32 (e.child : Int)] := by unfold enCs; rw [List.flatMap_append]; simp
theorem enCs_at : ∀ (l : List En) {j : Nat} {e : En}, l[j]? = some e → (enCs l)[j * 2]? = some (.string e.key) ∧ (enCs l)[j * 2 + 1]? = some (.int .u32 (e.child : Int))
  | [], _, _, h => by simp at h
  | a :: l, 0, e, h => by
    simp at h
    subst h
    exact ⟨rfl, rfl⟩
  | a :: l, j + 1, e, h => by
    simp only [List.getElem?_cons_succ] at h
    obtain ⟨h1, h2⟩ := enCs_at l h
    have e1 : enCs (a :: l) = .string a.key :: .int .u32 (a.child : Int) :: enCs l := rfl
    rw [e1, show (j + 1) * 2 = j * 2 + 1 + 1 by omega, show j * 2 + 1 + 1 + 1 = (j * 2 + 1) + 1 + 1 by omega]
    simp only [List.getElem?_cons_succ]
    exact ⟨h1, h2⟩
/-- v is a slice of these entries, in a block of the call's own -/
structure Te (W0 w : World) (v : Value) (l : List En) : Prop where
  own : w.ownsRow W0.heap.size 73 2 v l.length (enCs l)
  size : W0.heap.size ≤ w.heap.size
theorem Te.nil (W0 : World) {w : World} (hs : W0.heap.size ≤ w.heap.size) : Te W0 w (.slice none 0 0) [] := ⟨World.ownsRow_nil _ _ _ _, hs⟩
theorem Te.isEns {W0 w : World} {v : Value} {l : List En} (h : Te W0 w v l) (hw : ∀ e ∈ l, e.wf) : IsEns w v l := by
  rcases h.own.2 with ⟨rfl, h2⟩ | ⟨g, cap, cur, rfl, h2, h3, h4, h5, h6, h7⟩
  · have : l = [] := List.eq_nil_of_length_eq_zero h2
    subst this
    exact ⟨none, 0, rfl, fun i r hi => by simp at hi⟩
  · refine ⟨_, cap, rfl, fun i r hi => ⟨g, 0, rfl, ?_⟩⟩
    have hlt := (List.getElem?_eq_some_iff.1 hi).1
    obtain ⟨k1, k2⟩ := enCs_at l hi
    rw [← h7, List.getElem?_take, if_pos (by omega)] at k1
    rw [← h7, List.getElem?_take, if_pos (by omega)] at k2
    refine ⟨?_, ?_, hw r (List.mem_of_getElem? hi)⟩
    · rw [cell_of_row w g _ cur _ _ h3, ← Array.getElem?_toList, Nat.zero_add]
      exact k1
    · rw [cell_of_row w g _ cur _ _ h3, ← Array.getElem?_toList, Nat.zero_add]
      exact k2
theorem Te.shape {W0 w : World} {v : Value} {l : List En} (h : Te W0 w v l) : ∃ ad cap, v = .slice ad l.length cap := by
  rcases h.own.2 with ⟨rfl, h2⟩ | ⟨g, cap, cur, rfl, _⟩
  · exact ⟨none, 0, by rw [h2]⟩
  · exact ⟨_, cap, rfl⟩
theorem Te.later {W0 w w' : World} {v : Value} {l : List En} (h : Te W0 w v l) (t : Below w.heap.size w w') : Te W0 w' v l := by
  refine ⟨⟨h.own.1, ?_⟩, Nat.le_trans h.size t.size⟩
  rcases h.own.2 with e | ⟨g, cap, cur, e1, e2, e3, e4⟩
  · exact .inl e
  · exact .inr ⟨g, cap, cur, e1, e2, old_blk t e3, e4⟩
set_option maxRecDepth 100000 in
theorem infoE : (Tryd.prog.info? 73).map (fun i => (i.zero, i.size, i.bytes)) = some (some (.agg #[.string ⟨#[]⟩, .int .u32 0]), 2, 24) := by kernel_rfl
set_option maxRecDepth 100000 in
theorem run_app_ent {W0 w : World} {v : Value} {l : List En} (ty : TypeId) (h : Te W0 w v l) (e : En) (hl : l.length ≤ 900000) :
    ∃ v' w', (Builtin.append_ #[71, 71] ty #[v, .slice (some ⟨w.heap.size, 0, none⟩) 1 1]).run Tryd.prog (w.alloc (.cells #[.string e.key, .int .u32 (e.child : Int)] 73)) = .ok v' w' ∧ Te W0 w' v' (l ++ [e]) ∧ (w.alloc (.cells #[.string e.key, .int .u32 (e.child : Int)] 73)).grownBy w' v.ownBlock := by
  obtain ⟨i0, hi, hz0, hz1, hz2⟩ := info_parts infoE
  have b := below_new w (.cells #[.string e.key, .int .u32 (e.child : Int)] 73)
  have hn := heap_alloc_new w (.cells #[.string e.key, .int .u32 (e.child : Int)] 73)
  obtain ⟨v', w', hr, h4, h5, _⟩ := run_append_own (P := Tryd.prog) (w.alloc (.cells #[.string e.key, .int .u32 (e.child : Int)] 73)) W0.heap.size 71 ty 73 i0 _ 2 24 Tryd.underlying71 hi hz0 hz1 hz2 rfl (by decide) v l.length _ (h.later b).own ⟨w.heap.size, 0, none⟩ 1 1 [.string e.key, .int .u32 (e.child : Int)] rfl (fun j u hj => by
    have e1 : (⟨w.heap.size, 0, none⟩ : Addr).add j = ⟨w.heap.size, j, none⟩ := by simp [Addr.add]; omega
    rw [e1, cell_of_row _ _ _ _ _ _ hn, ← hj]
    match j with
    | 0 => rfl
    | 1 => rfl
    | j + 2 => simp) (fun u hu => by
      simp at hu
      rcases hu with rfl | rfl <;> rfl) (by unfold maxLen; omega) (by omega) (h.later b).size
  refine ⟨v', w', hr, ⟨?_, Nat.le_trans (h.later b).size h5.size⟩, h5⟩
  rw [List.length_append, enCs_app]
  exact h4
section
variable {ops : Array Oper} {rest : List Oper} {o : Oper} {a : Act} {Q : Exit → Act → World → Prop}
theorem wpList_app_ent {W0 w : World} {v : Value} {l : List En} (e : En) (hgd : o.guard = none) (s d : Operand) (ho : o.op = .call { callee := .builtin .append, args := #[s, d], argTypes := #[71, 71] }) (h : Te W0 w v l) (hl : l.length ≤ 900000)
    (h1 : a.eval s = v) (h2 : a.eval d = .slice (some ⟨w.heap.size, 0, none⟩) 1 1) (hk : ∀ v' w', Te W0 w' v' (l ++ [e]) → (w.alloc (.cells #[.string e.key, .int .u32 (e.child : Int)] 73)).grownBy w' v.ownBlock → wpList Tryd.prog ops Q rest (a.put o.dst v') w') : wpList Tryd.prog ops Q (o :: rest) a (w.alloc (.cells #[.string e.key, .int .u32 (e.child : Int)] 73)) :=
  wpList_plain hgd fun _ hK => by
    obtain ⟨v', w', hr, k1, k2⟩ := run_app_ent o.type h e hl
    unfold Oper.wp execOp
    simp only [ho, resolve, invoke, builtin, Sem.run_bind, Sem.run_pure, Result.andThen_ok, List.map_toArray, List.map_cons, List.map_nil, h1, h2, hr]
    exact hK _ _ (hk v' w' k1 k2)
theorem wpList_app_ent2 {W0 w : World} {v : Value} {l : List En} (e : En) (c : Int) (hc : (e.child : Int) = c) (hgd : o.guard = none) (s d : Operand) (ho : o.op = .call { callee := .builtin .append, args := #[s, d], argTypes := #[71, 71] }) (h : Te W0 w v l) (hl : l.length ≤ 900000)
    (h1 : a.eval s = v) (h2 : a.eval d = .slice (some ⟨w.heap.size, 0, none⟩) 1 1) (hk : ∀ v' w', Te W0 w' v' (l ++ [e]) → (w.alloc (.cells #[.string e.key, .int .u32 c] 73)).grownBy w' v.ownBlock → wpList Tryd.prog ops Q rest (a.put o.dst v') w') : wpList Tryd.prog ops Q (o :: rest) a (w.alloc (.cells #[.string e.key, .int .u32 c] 73)) := by
  subst hc
  exact wpList_app_ent e hgd s d ho h hl h1 h2 hk
end

set_option maxRecDepth 100000 in
set_option maxHeartbeats 8000000 in
theorem finds_walk {w : World} {v : Value} {l : List Rw} {key : ByteArray} (h : IsRws w v l) (hl : l.length ≤ 140737488351232) (hk : key.size ≤ 140737488351232) :
    Calls Tryd.prog 7 #[v, .string key] w fun e w' => e = .returned (.bool true) ∧ Below w.heap.size w w' := by
  have H := Lib.hid h
  obtain ⟨ad, c, rfl, _⟩ := id h
  obtain ⟨n, hn⟩ : ∃ n, n = l.length := ⟨_, rfl⟩
  have N := Lib.hid hn
  rw [← hn] at H hl ⊢
  have hwf : ∀ j (hj : j < l.length), l[j].wf := fun j hj => by
    obtain ⟨_, _, _, _, t⟩ := h.at hj
    exact t.wf
  clear hn h
  by_cases hbig : 30 < n
  · go_enter Tryd.func7, Tryd.ntmps7
    go_wp2_with fail
    refine (alive_any _).mono ?_
    rintro e w2 ⟨rfl, b2⟩
    have B2 := Lib.hid b2
    clear b2
    go_wp2_with fail
    go_ret
    exact ⟨rfl, B2.out⟩
  by_cases hkb : 512 < key.size
  · go_enter Tryd.func7, Tryd.ntmps7
    go_wp2_with fail
    refine (alive_any _).mono ?_
    rintro e w2 ⟨rfl, b2⟩
    have B2 := Lib.hid b2
    clear b2
    go_wp2_with fail
    go_ret
    exact ⟨rfl, B2.out⟩
  have KL := Lib.hid (own_post (leaf_any l H.out (by rw [← N.out]; omega)))
  have KH := Lib.hid (fun (W : World) (u : Value) (t : Page.Rows W u (leafP l).rows) => Page.heavy_any (leafP l) t (show (l.map encS).length ≤ _ by rw [List.length_map, ← N.out]; omega) (fun j hj => by have := leaf_small l hj; omega))
  have LU := Lib.hid (fun h => light_used (l := (leafP l).rows) h)
  have KC := Lib.hid (fun (hu : used (leafP l).rows ≤ 20000) (W : World) (u : Value) (t : Page.Rows W u (leafP l).rows) => check_any (leafP l) t (by show 1 < 256; omega) (by omega))
  have KF := Lib.hid (fun (hu : used (leafP l).rows ≤ 20000) (s : ByteArray) (W : World) (u : Value) (t : Page.Rows W u (leafP l).rows) => find_any (leafP l) s t (by show 1 < 256; omega) (by omega))
  have KK := Lib.hid (fun (hu : used (leafP l).rows ≤ 20000) (x : Int) (W : World) (u : Value) (t : Page.Rows W u (leafP l).rows) => key_any (leafP l) x t (by show 1 < 256; omega) (by omega))
  have CN := Lib.hid (fun h => check_node (p := leafP l) h)
  have FA := Lib.hid (fun (hn : nodeB (leafP l) = true) (j : Nat) (h : j < l.length) => leaf_find_at hwf hn h)
  have FK := Lib.hid (fun (hn : nodeB (leafP l) = true) (j : Nat) (h : j < l.length) => leaf_key_at hwf hn h)
  have FP := Lib.hid (fun (hn : nodeB (leafP l) = true) => leaf_place hwf hn key)
  have FF := Lib.hid (fun (hn : nodeB (leafP l) = true) => leaf_find hwf hn key)
  have FR := Lib.hid (fun (hn : nodeB (leafP l) = true) => leaf_ris hwf hn)
  have WF := Lib.hid hwf
  clear hwf
  generalize leafP l = P at *
  go_enter Tryd.func7, Tryd.ntmps7
  go_wp2_with fail
  refine KL.out.mono ?_
  rintro e w1 ⟨adu, capu, rfl, b1, r1, _⟩
  have T1 := Lib.hid (Pb.make b1 r1)
  obtain ⟨m, hm⟩ : ∃ m, m = P.rows.length := ⟨_, rfl⟩
  rw [← hm] at T1 ⊢
  clear hm b1 r1 KL
  unfold pgV
  go_upto_region 4 with fail
  unfold pgC at T1
  generalize w1.alloc _ = W1 at *
  generalize w1.heap.size = g at *
  obtain ⟨a0, a1, a2, a3, a4, a5⟩ := T1.out.six
  unfold pgV at KH KC KF KK
  go_wp2_with fail
  refine (KH.out _ _ T1.out.rows).mono ?_
  rintro e w2 ⟨rfl, b2⟩
  have T2 := Lib.hid (T1.out.later b2)
  clear b2 T1 KH a0 a1 a2 a3 a4 a5
  generalize heavyB P.rows = hb at *
  cases hb with
  | true =>
    clear KC KF KK LU CN FA FK FP FF FR WF
    go_wp2_with fail
    refine (alive_any _).mono ?_
    rintro e w3 ⟨rfl, b3⟩
    have B2 := Lib.hid (T2.out.later b3).below
    clear b3 T2
    go_wp2_with fail
    go_ret
    exact ⟨rfl, B2.out⟩
  | false =>
  have hu := LU.out rfl
  obtain ⟨a0, a1, a2, a3, a4, a5⟩ := T2.out.six
  go_wp2_with fail
  refine (KC.out hu _ _ T2.out.rows).mono ?_
  rintro e w3 ⟨rfl, b3⟩
  have T3 := Lib.hid (T2.out.later b3)
  clear b3 T2 KC a0 a1 a2 a3 a4 a5
  cases hck : (checkI P != 0) with
  | true =>
    clear KF KK LU CN FA FK FP FF FR WF
    go_wp2_with fail
    refine (alive_any _).mono ?_
    rintro e w4 ⟨rfl, b4⟩
    have B2 := Lib.hid (T3.out.later b4).below
    clear b4 T3
    go_wp2_with fail
    go_ret
    exact ⟨rfl, B2.out⟩
  | false =>
  have hnode := CN.out hck
  have QF := Lib.hid (KF.out hu)
  have QK := Lib.hid (KK.out hu)
  have QFA := Lib.hid (FA.out hnode)
  have QFK := Lib.hid (FK.out hnode)
  have QFP := Lib.hid (FP.out hnode)
  have QFF := Lib.hid (FF.out hnode)
  have QFR := Lib.hid (FR.out hnode)
  have CK := Lib.hid hck
  clear KF KK LU CN FA FK FP FF FR hnode hu hck
  have ck2 := CK.out
  go_wp2_with fail
  clear ck2
  go_loopw [6] (fun i wr => ∃ k : Nat, k ≤ n ∧ i = .int .i64 (k : Int) ∧ Pb w wr g P (.slice adu m capu)) (fun i _ => n - (intOf i).toNat)
  case atStart => exact ⟨0, by omega, by go_num, T3.out⟩
  case round =>
    obtain ⟨k, hk, rfl, hp⟩ := hrel
    have HP := Lib.hid hp
    clear hp T3
    by_cases hlt : k < n
    · have hlt2 : k < l.length := by rw [← N.out]; exact hlt
      obtain ⟨x, o, cap', hv, hat⟩ := (H.out.later HP.out.below).at hlt2
      simp only [Value.slice.injEq] at hv
      obtain ⟨rfl, e9, rfl⟩ := hv
      clear e9
      obtain ⟨q1, q2⟩ := QFA.out k hlt2
      obtain ⟨q3, q4⟩ := QFK.out k hlt2
      have c0 := hat.c0
      have KF2 := Lib.hid (QF.out l[k].key)
      have KK2 := Lib.hid (QK.out (k : Int))
      rw [q1, q2] at KF2
      rw [q3, q4] at KK2
      generalize l[k].key = sk at *
      have PD := Lib.hid (HP.out.later ((Below.refl _ _).drew))
      have C0 := Lib.hid (show wr.drew.cell? ⟨x, o + k * 7, none⟩ = some (.string sk) from c0)
      have XL := Lib.hid (show x < wr.heap.size from block_lt_of_cell c0)
      have k0 : (0 : Int) ≤ (k : Int) := Int.natCast_nonneg _
      have k1 : (k : Int) < (n : Int) := by omega
      clear hat q1 q2 q3 q4 HP hlt2 c0
      go_wp2_with fail
      go_region_held3 (fun w' => w'.cell? ⟨g, 0, none⟩ = some (.int .u8 (P.kind : Int)) ∧ w'.cell? ⟨g, 1, none⟩ = some (.int .u8 (P.level : Int)) ∧ w'.cell? ⟨g, 2, none⟩ = some (.int .u32 (P.id : Int)) ∧ w'.cell? ⟨g, 3, none⟩ = some (.int .u64 (P.lsn : Int)) ∧ w'.cell? ⟨g, 4, none⟩ = some (.int .u32 (P.next : Int)) ∧ w'.cell? ⟨g, 5, none⟩ = some (.slice adu m capu) ∧ w'.cell? ⟨x, o + k * 7, none⟩ = some (.string sk)) (first | exact ⟨PD.out.six.1, PD.out.six.2.1, PD.out.six.2.2.1, PD.out.six.2.2.2.1, PD.out.six.2.2.2.2.1, PD.out.six.2.2.2.2.2, C0.out⟩ | exact ⟨PE.six.1, PE.six.2.1, PE.six.2.2.1, PE.six.2.2.2.1, PE.six.2.2.2.2.1, PE.six.2.2.2.2.2, c10⟩)
        (first | (go_at_call 12; refine (KF2.out _ _ PD.out.rows).mono ?_; rintro e w4 ⟨rfl, b4⟩; have PE := PD.out.later b4; have c10 := (World.cell?_of_block (b4.block x XL.out)).trans C0.out))
      have P4 := Lib.hid PE
      have C4 := Lib.hid c10
      clear PE c10 b4 PD C0 XL KF2
      obtain ⟨a0, a1, a2, a3, a4, a5⟩ := P4.out.six
      go_wp2_with fail
      refine (KK2.out _ _ P4.out.rows).mono ?_
      rintro e w5 ⟨rfl, b5⟩
      have P5 := Lib.hid (P4.out.later b5)
      have c5 := (World.cell?_of_block (b5.block x (block_lt_of_cell C4.out))).trans C4.out
      have z1 := Page.beq_yes sk
      have z2 : (sk.toList != sk.toList) = false := by simp
      clear b5 P4 C4 KK2 a0 a1 a2 a3 a4 a5
      go_wp2_with fail
      go_roundw
      case rel => exact ⟨k + 1, by omega, by go_num, P5.out⟩
      case measure => simp [intOf]; omega
    · obtain rfl : k = n := by omega
      have KF2 := Lib.hid (QF.out key)
      clear QF QK QFA QFK
      obtain ⟨p1, p2, p3, p4⟩ := QFP.out
      obtain ⟨f1, f2⟩ := QFF.out
      have F1 := Lib.hid f1
      have F2 := Lib.hid f2
      clear f1 f2 QFF QFP
      generalize findI P key = f at *
      generalize findB P key = b at *
      have P2 := Lib.hid p2
      have P3 := Lib.hid p3
      have P4 := Lib.hid p4
      have hfn : f ≤ k := by rw [N.out]; exact p1
      clear p1 p2 p3 p4
      obtain ⟨a0, a1, a2, a3, a4, a5⟩ := HP.out.six
      go_wp2_with fail
      refine (KF2.out _ _ HP.out.rows).mono ?_
      rintro e w4 ⟨rfl, b4⟩
      have B4 := Lib.hid (HP.out.later b4).below
      clear b4 HP KF2 a0 a1 a2 a3 a4 a5
      go_upto_region 14 with fail
      go_cut [143] (fun s wx => s = .bool false ∧ Below w.heap.size w wx)
      case first =>
        by_cases hf0 : 0 < f
        · skip
          have hj : f - 1 < l.length := by rw [← N.out]; omega
          obtain ⟨x, o, cap', hv, hat⟩ := (H.out.later B4.out).at hj
          simp only [Value.slice.injEq] at hv
          obtain ⟨rfl, e9, rfl⟩ := hv
          clear e9
          have c0 := hat.c0
          have cl := P2.out hj hf0
          have KC1 := Lib.hid (fun W => Key.rcompare_any l[f - 1].key key W (by have := hat.wf.key; unfold maxLen; omega) (by unfold maxLen; omega))
          generalize l[f - 1].key = s1 at *
          generalize cmpOf s1 key = cm1 at *
          by_cases hfk : f < k
          · have hj2 : f < l.length := by rw [← N.out]; exact hfk
            obtain ⟨x2, o2, cap2, hv2, hat2⟩ := (H.out.later B4.out).at hj2
            simp only [Value.slice.injEq, Option.some.injEq, Addr.mk.injEq] at hv2
            obtain ⟨⟨rfl, rfl, _⟩, e9, rfl⟩ := hv2
            clear e9
            have c1 := hat2.c0
            have cg := P3.out hj2
            have KC2 := Lib.hid (fun W => Key.rcompare_any key l[f].key W (by unfold maxLen; omega) (by have := hat2.wf.key; unfold maxLen; omega))
            have P5 := Lib.hid (fun hb : b = true => (show l[f].key = key from (P4.out hb).2))
            generalize l[f].key = s2 at *
            generalize cmpOf key s2 = cm2 at *
            have CELL := Lib.hid (fun (W : World) (t : Below w4.heap.size w4 W) => (World.cell?_of_block (t.block x (block_lt_of_cell c1))).trans c1)
            have z2 : (key.toList != key.toList) = false := by simp
            clear hat hat2 P2 P3 P4 WF
            cases b with
            | true =>
              obtain rfl := P5.out rfl
              clear P5
              go_wp2_with fail
              refine (KC1.out _).mono ?_
              rintro e w5 ⟨rfl, b5⟩
              have c2 := CELL.out w5 b5
              have B5 := Lib.hid (B4.out.trans (b5.mono B4.out.size))
              have BX := Lib.hid b5
              clear b5 c0 c1 KC1
              go_wp2_with fail
              refine (KC2.out _).mono ?_
              rintro e w6 ⟨rfl, b6⟩
              have c3 := CELL.out w6 (BX.out.trans (b6.mono BX.out.size))
              have B6 := Lib.hid (B5.out.trans (b6.mono B5.out.size))
              clear b6 c2 B5 BX KC2 CELL
              go_wp2_with fail
              go_meet
              exact ⟨by simp <;> omega, B6.out⟩
            | false =>
              clear P5
              go_wp2_with fail
              refine (KC1.out _).mono ?_
              rintro e w5 ⟨rfl, b5⟩
              have c2 := CELL.out w5 b5
              have B5 := Lib.hid (B4.out.trans (b5.mono B4.out.size))
              have BX := Lib.hid b5
              clear b5 c0 c1 KC1
              go_wp2_with fail
              refine (KC2.out _).mono ?_
              rintro e w6 ⟨rfl, b6⟩
              have c3 := CELL.out w6 (BX.out.trans (b6.mono BX.out.size))
              have B6 := Lib.hid (B5.out.trans (b6.mono B5.out.size))
              clear b6 c2 B5 BX KC2 CELL
              go_wp2_with fail
              go_meet
              exact ⟨by simp <;> omega, B6.out⟩
          · cases b with
            | true =>
              exact absurd (by have := (P4.out rfl).1; rw [← N.out] at this; exact this) hfk
            | false =>
              clear hat P2 P3 P4 WF
              go_wp2_with fail
              refine (KC1.out _).mono ?_
              rintro e w5 ⟨rfl, b5⟩
              have B5 := Lib.hid (B4.out.trans (b5.mono B4.out.size))
              clear b5 c0 KC1
              go_wp2_with fail
              go_meet
              exact ⟨by simp <;> omega, B5.out⟩
        · skip
          by_cases hfk : f < k
          · have hj2 : f < l.length := by rw [← N.out]; exact hfk
            obtain ⟨x2, o2, cap2, hv2, hat2⟩ := (H.out.later B4.out).at hj2
            simp only [Value.slice.injEq] at hv2
            obtain ⟨rfl, e9, rfl⟩ := hv2
            clear e9
            have c1 := hat2.c0
            have cg := P3.out hj2
            have KC2 := Lib.hid (fun W => Key.rcompare_any key l[f].key W (by unfold maxLen; omega) (by have := hat2.wf.key; unfold maxLen; omega))
            have P5 := Lib.hid (fun hb : b = true => (show l[f].key = key from (P4.out hb).2))
            generalize l[f].key = s2 at *
            generalize cmpOf key s2 = cm2 at *
            have CELL := Lib.hid (fun (W : World) (t : Below w4.heap.size w4 W) => (World.cell?_of_block (t.block x2 (block_lt_of_cell c1))).trans c1)
            have z2 : (key.toList != key.toList) = false := by simp
            clear hat2 P2 P3 P4 WF
            cases b with
            | true =>
              obtain rfl := P5.out rfl
              clear P5
              go_wp2_with fail
              refine (KC2.out _).mono ?_
              rintro e w6 ⟨rfl, b6⟩
              have c3 := CELL.out w6 b6
              have B6 := Lib.hid (B4.out.trans (b6.mono B4.out.size))
              clear b6 c1 KC2 CELL
              go_wp2_with fail
              go_meet
              exact ⟨by simp <;> omega, B6.out⟩
            | false =>
              clear P5
              go_wp2_with fail
              refine (KC2.out _).mono ?_
              rintro e w6 ⟨rfl, b6⟩
              have c3 := CELL.out w6 b6
              have B6 := Lib.hid (B4.out.trans (b6.mono B4.out.size))
              clear b6 c1 KC2 CELL
              go_wp2_with fail
              go_meet
              exact ⟨by simp <;> omega, B6.out⟩
          · cases b with
            | true =>
              exact absurd (by have := (P4.out rfl).1; rw [← N.out] at this; exact this) hfk
            | false =>
              clear P2 P3 P4 WF
              go_wp2_with fail
              go_meet
              exact ⟨by simp <;> omega, B4.out⟩
      case rest =>
        obtain ⟨rfl, b5⟩ := hcut
        have B5 := Lib.hid b5
        clear b5 B4 P2 P3 P4
        have E0 := Lib.hid (Te.nil w B5.out.size)
        have EN0 := Lib.hid (show entsOf (l.take 0) = [] from rfl)
        go_wp2_with fail
        go_loopw [13, 14] (fun v i wr => ∃ j : Nat, j ≤ k ∧ i = .int .i64 (j : Int) ∧ Te w wr v (entsOf (l.take j)) ∧ Below w.heap.size w wr) (fun _ i _ => k - (intOf i).toNat)
        case atStart => exact ⟨0, by omega, by go_num, by rw [EN0.out]; exact E0.out, B5.out⟩
        case round =>
          obtain ⟨j, hj, rfl, ht, hb⟩ := hrel
          have HT := Lib.hid ht
          have HB := Lib.hid hb
          clear ht hb E0 B5
          by_cases hjk : j < k
          · have hlt2 : j < l.length := by rw [← N.out]; exact hjk
            obtain ⟨x, o, cap', hv, hat⟩ := (H.out.later HB.out).at hlt2
            simp only [Value.slice.injEq] at hv
            obtain ⟨rfl, e9, rfl⟩ := hv
            clear e9
            have c0 := hat.c0
            have TK := Lib.hid (ents_take hlt2)
            generalize l[j].key = sk at *
            obtain ⟨ade, cape, hve⟩ := HT.out.shape
            subst hve
            have eL : (entsOf (l.take j)).length = j := by rw [ents_len, List.length_take]; omega
            rw [eL] at HT ⊢
            have HB2 := Lib.hid (HB.out.trans ((below_new wr (.cells #[.string sk, .int .u32 ((j : Int) + 2)] 73)).mono HB.out.size))
            have LB := Lib.hid (show (entsOf (l.take j)).length ≤ 900000 by rw [eL]; omega)
            have j2 : ((j + 2 : Nat) : Int) = (j : Int) + 2 := by omega
            have J2 := Lib.hid j2
            clear hat hlt2 eL j2
            go_wp2_with (first | (refine wpList_app_ent2 (W0 := w) ⟨sk, j + 2⟩ ((j : Int) + 2) J2.out rfl _ _ rfl HT.out LB.out rfl rfl ?_; intro v5 w5 t5 g5))
            have HT5 := Lib.hid t5
            have HB5 := Lib.hid (HB2.out.grown g5 HB2.out.size (fun x hx => by
              rcases HT.out.own.2 with ⟨e, _⟩ | ⟨gg, cp, cu, e, e2, _⟩
              · rw [e] at hx; cases hx
              · rw [e] at hx; cases hx; exact e2))
            rw [← TK.out] at HT5
            clear t5 g5 HT HB HB2
            go_wp2_with fail
            go_roundw
            case rel => exact ⟨j + 1, by omega, by go_num, HT5.out, HB5.out⟩
            case measure => simp [intOf]; omega
          · obtain rfl : j = k := by omega
            have eT : l.take j = l := List.take_of_length_le (by rw [← N.out]; exact Nat.le_refl _)
            rw [eT] at HT
            obtain ⟨ade, cape, hve⟩ := HT.out.shape
            subst hve
            have eL2 : (entsOf l).length = j := by rw [ents_len, ← N.out]
            have EW : ∀ i (hi : i < (entsOf l).length), (entsOf l)[i].wf := fun i hi => by
              have hi2 : i < l.length := by rw [← ents_len l]; exact hi
              rw [ents_at hi]
              exact ⟨(WF.out i hi2).key, by show i + 2 < 4294967296; have := N.out; omega⟩
            have KI := Lib.hid (own_post (inner_any (entsOf l) (HT.out.isEns (fun e he => by
              obtain ⟨i, hi, rfl⟩ := List.getElem_of_mem he
              exact EW i hi)) (by rw [eL2]; omega)))
            rw [eL2] at KI ⊢
            have UI := Lib.hid (show used (innerP (entsOf l)).rows ≤ 1000000 by
              show used ((entsOf l).map entS) ≤ _
              exact ents_used WF.out (by rw [← N.out]; omega))
            have KC := Lib.hid (fun (W : World) (u : Value) (t : Page.Rows W u (innerP (entsOf l)).rows) => check_any (innerP (entsOf l)) t (by show 2 < 256; omega) UI.out)
            have KD := Lib.hid (fun (W : World) (u : Value) (t : Page.Rows W u (innerP (entsOf l)).rows) => child_any (innerP (entsOf l)) key t (by show 2 < 256; omega) UI.out)
            have CN := Lib.hid (fun h => check_node (p := innerP (entsOf l)) h)
            have IC := Lib.hid (fun (hn : nodeB (innerP (entsOf l)) = true) (h0 : 0 < l.length) => inner_child EW hn key h0 QFR.out F1.out F2.out)
            clear eT eL2 EW HT
            generalize innerP (entsOf l) = Q at *
            go_wp2_with fail
            refine KI.out.mono ?_
            rintro e w6 ⟨adq, capq, rfl, b6, r6, _⟩
            have B6 := Lib.hid (HB.out.trans (b6.mono HB.out.size))
            have T6 := Lib.hid (Pb.make B6.out r6)
            generalize Q.rows.length = mq at *
            clear b6 r6 KI HB B6
            unfold pgV
            go_upto_region 22 with fail
            unfold pgC at T6
            generalize w6.alloc _ = W6 at *
            generalize w6.heap.size = gq at *
            unfold pgV at KC KD
            by_cases hj0 : j = 0
            · subst hj0
              clear KC KD CN IC
              go_wp2_with fail
              refine (alive_any _).mono ?_
              rintro e w7 ⟨rfl, b7⟩
              have B7 := Lib.hid (T6.out.later b7).below
              clear b7 T6
              go_wp2_with fail
              go_ret
              exact ⟨rfl, B7.out⟩
            · have hj1 : ((j : Int) == 0) = false := by simp; omega
              obtain ⟨a0, a1, a2, a3, a4, a5⟩ := T6.out.six
              go_wp2_with fail
              refine (KC.out _ _ T6.out.rows).mono ?_
              rintro e w7 ⟨rfl, b7⟩
              have T7 := Lib.hid (T6.out.later b7)
              clear b7 T6 KC a0 a1 a2 a3 a4 a5
              cases hcq : (checkI Q != 0) with
              | true =>
                clear KD CN IC
                go_wp2_with fail
                refine (alive_any _).mono ?_
                rintro e w8 ⟨rfl, b8⟩
                have B7 := Lib.hid (T7.out.later b8).below
                clear b8 T7
                go_wp2_with fail
                go_ret
                exact ⟨rfl, B7.out⟩
              | false =>
                obtain ⟨i1, i2, i3⟩ := IC.out (CN.out hcq) (by rw [← N.out]; omega)
                have I1 := Lib.hid i1
                have I2 := Lib.hid i2
                rw [i3] at KD
                obtain ⟨a0, a1, a2, a3, a4, a5⟩ := T7.out.six
                clear IC CN i1 i2 i3
                generalize chI Q key = ci at *
                generalize chC Q key = cc at *
                go_wp2_with fail
                refine (KD.out _ _ T7.out.rows).mono ?_
                rintro e w8 ⟨rfl, b8⟩
                have T8 := Lib.hid (T7.out.later b8).below
                clear b8 T7 KD a0 a1 a2 a3 a4 a5 hcq
                have hci : ci ≤ 30 := by
                  rw [I1.out]
                  split <;> omega
                obtain ⟨xx, hxx⟩ : ∃ x : Int, x = if b = true then (f : Int) else (f : Int) - 1 := ⟨_, rfl⟩
                have XX := Lib.hid hxx
                have HMX := Lib.hid (show max xx 0 = (ci : Int) by
                  rw [hxx, I1.out]
                  cases b with
                  | true => rw [if_pos rfl, if_pos rfl]; omega
                  | false => rw [if_neg (by decide), if_neg (by decide)]; omega)
                have x1 : -1 ≤ xx := by
                  rw [hxx]
                  split <;> omega
                have x2 : xx ≤ 30 := by
                  rw [hxx]
                  split <;> omega
                have e1 : cc = ci + 2 := by rw [I2.out, I1.out]
                subst e1
                clear hxx I1 I2
                have j2 : ((ci + 2 : Nat) : Int) = (ci : Int) + 2 := by omega
                rw [j2]
                clear j2
                go_upto_if 182 with fail
                go_cut [19] (fun s wx => s = .int .i64 xx ∧ wx = w8)
                case first =>
                  cases b with
                  | true =>
                    have hx := XX.out
                    rw [if_pos rfl] at hx
                    subst hx
                    clear XX HMX
                    go_wp2_with fail
                    go_meet
                    exact ⟨rfl, rfl⟩
                  | false =>
                    have hx := XX.out
                    rw [if_neg (by decide)] at hx
                    subst hx
                    clear XX HMX
                    go_wp2_with fail
                    go_meet
                    exact ⟨rfl, rfl⟩
                case rest =>
                  obtain ⟨rfl, rfl⟩ := hcut
                  have hmx := HMX.out
                  clear XX HMX
                  go_wp2_with fail
                  refine (alive_any _).mono ?_
                  rintro e w9 ⟨rfl, b9⟩
                  have B9 := Lib.hid (T8.out.trans (b9.mono T8.out.size))
                  clear b9 T8
                  go_wp2_with fail
                  go_ret
                  exact ⟨rfl, B9.out⟩

end Go.Proofs.YtbdbnpcbbebelaaDoor.Node
