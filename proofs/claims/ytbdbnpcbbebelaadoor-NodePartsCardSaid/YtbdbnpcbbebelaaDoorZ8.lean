/-
  Plain mathematics: nodes: their keys, and whether they rise.
  Walks: a row's key, in the document.
  Walks: the keys of a page, in the document.
  Walks: the keys of a node, in the document.
-/
import Derived.Test.YtbdbnpcbbebelaaDoorZ3
import Derived.Test.YtbdbnpcbbebelaaDoorZ2
import Derived.Test.YtbdbnpcbbebelaaDoorZ7
import Derived.Test.YtbdbnpcbbebelaaDoorZ4
namespace Go.Proofs.YtbdbnpcbbebelaaDoor.Node
open Go.Proofs.YtbdbnpcbbebelaaDoor.Page (Pg nth used)
open Go.Proofs.YtbdbnpcbbebelaaDoor.Row (decR decN okR okE)
open Go.Proofs.YtbdbnpcbbebelaaDoor.Key (cmpOf)

/-- a row's key; whether it is a row -/
def kS (kind : Nat) (s : ByteArray) : ByteArray := if kind = 1 then (decR s).key else (decN s).key
def kB (kind : Nat) (s : ByteArray) : Bool := if kind = 1 then okR s else okE s
/-- whether row j is one, and behind the one ahead of it -/
def okAt (kind : Nat) (l : List ByteArray) (j : Nat) : Bool := kB kind (nth l j) && (decide (j = 0) || decide (cmpOf (kS kind (nth l (j - 1))) (kS kind (nth l j)) < 0))
/-- whether the first k rows are rows that rise -/
def upB (kind : Nat) (l : List ByteArray) (k : Nat) : Bool := (List.range k).all (okAt kind l)
theorem upB_zero (kind : Nat) (l : List ByteArray) : upB kind l 0 = true := rfl
theorem upB_succ (kind : Nat) (l : List ByteArray) (k : Nat) : upB kind l (k + 1) = (upB kind l k && okAt kind l k) := by
  unfold upB
  rw [List.range_succ, List.all_append]
  simp
theorem upB_at {kind : Nat} {l : List ByteArray} {n k : Nat} (h : upB kind l n = true) (hk : k < n) : okAt kind l k = true :=
  List.all_eq_true.1 h k (List.mem_range.2 hk)
theorem upB_no {kind : Nat} {l : List ByteArray} {n k : Nat} (h : okAt kind l k = false) (hk : k < n) : upB kind l n = false := by
  cases he : upB kind l n with
  | false => rfl
  | true => rw [upB_at he hk] at h; cases h
/-- its kind, level and number of rows are a node's -/
def headB (p : Pg) : Bool := (decide (p.kind = 1) && decide (p.level = 0)) || (decide (p.kind = 2) && (decide (1 ≤ p.level) && decide (1 ≤ p.rows.length)))
def keysL (kind : Nat) (l : List ByteArray) : List ByteArray := l.map (kS kind)
/-- it is a node, but for its room -/
def keysB (p : Pg) : Bool := headB p && upB p.kind p.rows p.rows.length
def keysOf (p : Pg) : List ByteArray := if keysB p then keysL p.kind p.rows else []
def nodeB (p : Pg) : Bool := keysB p && Page.mayP p
theorem nth_keys {kind : Nat} {l : List ByteArray} {k : Nat} (h : k < l.length) : nth (keysL kind l) k = kS kind (nth l k) := by
  have h2 : k < (keysL kind l).length := by unfold keysL; rw [List.length_map]; exact h
  have e := Page.nth_get h2
  unfold keysL at e
  rw [List.getElem?_map, Page.nth_get h] at e
  exact (Option.some.inj e).symm
theorem keys_take (kind : Nat) (l : List ByteArray) (k : Nat) : keysL kind (l.take k) = (keysL kind l).take k := by
  unfold keysL
  rw [List.map_take]
theorem keys_len (kind : Nat) (l : List ByteArray) : (keysL kind l).length = l.length := by
  unfold keysL
  rw [List.length_map]

/-- a key is not longer than a row -/
theorem key_size {kind : Nat} {s : ByteArray} {b : Nat} (hs : s.size ≤ b) : (kS kind s).size ≤ b := by
  unfold kS
  split
  · unfold decR
    split
    · show (Row.tkS s (Row.q5 s) (Row.nK s)).size ≤ b
      unfold Row.tkS
      split
      · rw [ByteArray.size_extract]; omega
      · exact Nat.zero_le _
    · exact Nat.zero_le _
  · unfold decN
    split
    · show (s.extract 4 s.size).size ≤ b
      rw [ByteArray.size_extract]; omega
    · exact Nat.zero_le _

end Go.Proofs.YtbdbnpcbbebelaaDoor.Node

namespace Go.Proofs.YtbdbnpcbbebelaaDoor.Node
open Go.RowKit
open Go.Proofs.YtbdbnpcbbebelaaDoor.Page (Pg nth used pgV pgC)
open Go.Proofs.YtbdbnpcbbebelaaDoor.Row (decR decN okR okE decE decF rwC rwV enV enC)
attribute [local go_sem ↓] Go.wp_at_zero Go.wp_at_succ

theorem below_new (w : World) (o : Obj) : Below w.heap.size w (w.alloc o) := (Below.refl _ _).alloc (Nat.le_refl _) o
theorem dec_zero (s : ByteArray) : (decE s == 0) = okR s := by
  unfold decE
  cases okR s <;> rfl
theorem ent_zero (s : ByteArray) : (decF s == 0) = okE s := by
  unfold decF
  cases okE s <;> rfl

set_option maxRecDepth 100000 in
set_option maxHeartbeats 1000000 in
theorem keyof_any (kind : Nat) (s : ByteArray) (w : World) (hs : s.size ≤ 140737488351232) :
    Calls Tryd.prog 38 #[.int .u8 (kind : Int), .string s] w fun e w' => e = .returned (.tuple #[.string (kS kind s), .bool (kB kind s)]) ∧ Below w.heap.size w w' := by
  by_cases hk : kind = 1
  · subst hk
    have K := Lib.hid (fun W => Row.rdecode_any s W hs)
    have e1 : kS 1 s = (decR s).key := by unfold kS; rw [if_pos rfl]
    have e2 : kB 1 s = (decE s == 0) := by rw [dec_zero]; unfold kB; rw [if_pos rfl]
    rw [e1, e2]
    clear e1 e2 hs
    generalize decR s = r at *
    generalize decE s = c at *
    unfold rwV rwC at *
    go_enter Tryd.func38, Tryd.ntmps38
    go_wp2_with fail
    refine (K.out _).mono ?_
    rintro e w1 ⟨rfl, b1⟩
    have B := Lib.hid (b1.trans ((below_new w1 (.cells (rwC r) 68)).mono b1.size))
    clear b1 K
    unfold rwC at B
    go_wp2_with fail
    go_ret2
    exact ⟨rfl, B.out⟩
  · have hk2 : ((kind : Int) == 1) = false := by simp; omega
    have K := Lib.hid (fun W => (show Calls Tryd.prog 42 #[.string s] W fun e w' => e = .returned (.tuple #[enV (decN s), .int .i64 (decF s)]) ∧ Below W.heap.size W w' from Row.rdece_any s W hs))
    have e1 : kS kind s = (decN s).key := by unfold kS; rw [if_neg hk]
    have e2 : kB kind s = (decF s == 0) := by rw [ent_zero]; unfold kB; rw [if_neg hk]
    rw [e1, e2]
    clear e1 e2 hs hk
    generalize decN s = r at *
    generalize decF s = c at *
    unfold enV enC at *
    go_enter Tryd.func38, Tryd.ntmps38
    go_wp2_with fail
    refine (K.out _).mono ?_
    rintro e w1 ⟨rfl, b1⟩
    have B := Lib.hid (b1.trans ((below_new w1 (.cells (enC r) 73)).mono b1.size))
    clear b1 K
    unfold enC at B
    go_wp2_with fail
    go_ret2
    exact ⟨rfl, B.out⟩

/-- append of one text -/
theorem app_one {W0 wr : World} {v : Value} {L : List ByteArray} {S : ByteArray} (ht : Slot.Tx W0 wr v L) (hb : Below W0.heap.size W0 wr) (hl : L.length ≤ 900000) :
    Slot.Tx W0 (wr.alloc (.cells #[.string S] 9)) v L ∧ Slot.SrcOf (wr.alloc (.cells #[.string S] 9)) (.slice (some ⟨wr.heap.size, 0, none⟩) 1 1) [S].length ([S].map Value.string) ∧ L.length + [S].length ≤ 1000000 ∧ Below W0.heap.size W0 (wr.alloc (.cells #[.string S] 9)) := by
  have b := below_new wr (.cells #[.string S] 9)
  have TM := Slot.Tx.made W0 (w := wr) [S] hb.size (by simp)
  exact ⟨ht.later b, TM.all, by simp; omega, hb.trans (b.mono hb.size)⟩

end Go.Proofs.YtbdbnpcbbebelaaDoor.Node

namespace Go.Proofs.YtbdbnpcbbebelaaDoor.Node
open Go.RowKit
open Go.Proofs.YtbdbnpcbbebelaaDoor.Page (Pg nth used pgV pgC)
open Go.Proofs.YtbdbnpcbbebelaaDoor.Row (decR decN okR okE)
open Go.Proofs.YtbdbnpcbbebelaaDoor.Key (cmpOf)
attribute [local go_sem ↓] Go.wp_at_zero Go.wp_at_succ

/-- a page's box -/
structure Pb (W0 w : World) (g : Nat) (p : Pg) (v : Value) : Prop where
  box : w.heap[g]? = some (.cells (pgC p v) 26 (0, 0))
  rows : Page.Rows w v p.rows
  below : Below W0.heap.size W0 w
theorem Pb.later {W0 w w' : World} {g : Nat} {p : Pg} {v : Value} (h : Pb W0 w g p v) (t : Below w.heap.size w w') : Pb W0 w' g p v :=
  ⟨(t.block g (Array.getElem?_eq_some_iff.1 h.box).1).trans h.box, h.rows.later t, h.below.trans (t.mono h.below.size)⟩
theorem Pb.start {w : World} {p : Pg} {v : Value} (h : Page.Rows w v p.rows) : Pb w (w.alloc (.cells (pgC p v) 26)) w.heap.size p v := ⟨heap_alloc_new w _, h.alloc _, below_new _ _⟩
theorem Pb.six {W0 w : World} {g : Nat} {p : Pg} {v : Value} (h : Pb W0 w g p v) : w.cell? ⟨g, 0, none⟩ = some (.int .u8 (p.kind : Int)) ∧ w.cell? ⟨g, 1, none⟩ = some (.int .u8 (p.level : Int)) ∧ w.cell? ⟨g, 2, none⟩ = some (.int .u32 (p.id : Int)) ∧ w.cell? ⟨g, 3, none⟩ = some (.int .u64 (p.lsn : Int)) ∧ w.cell? ⟨g, 4, none⟩ = some (.int .u32 (p.next : Int)) ∧ w.cell? ⟨g, 5, none⟩ = some v := by
  refine ⟨?_, ?_, ?_, ?_, ?_, ?_⟩ <;> (rw [cell_of_row _ _ _ _ _ _ h.box]; rfl)
/-- where it has grown elsewhere -/
theorem Pb.grown {W0 w w' : World} {g : Nat} {p : Pg} {v u : Value} {l : List ByteArray} (h : Pb W0 w g p v) (ht : Slot.Tx W0 w u l) (t : w.grownBy w' u.ownBlock) (hr : p.rows ≠ [] → ∀ b o c, v = .slice (some ⟨b, o, none⟩) p.rows.length c → b < W0.heap.size) : Pb W0 w' g p v := by
  have hlt : ∀ x, u.ownBlock = some x → W0.heap.size ≤ x := fun x hx => (ht.own.lt x hx).1
  have hcol : ∀ x, u.ownBlock = some x → x ≠ g := by
    rintro x hx rfl
    rcases ht.form with ⟨rfl, rfl⟩ | ⟨g', cap, cur, rfl, _, h3, _⟩
    · simp [Value.ownBlock] at hx
    · simp [Value.ownBlock] at hx
      subst hx
      have := h.box.symm.trans h3
      simp at this
  refine ⟨(t.block g (Array.getElem?_eq_some_iff.1 h.box).1 (fun e => hcol g e.symm rfl)).trans h.box, ?_, h.below.grown t h.below.size hlt⟩
  obtain ⟨ad, c, hv, h1⟩ := h.rows
  by_cases hnil : p.rows = []
  · exact ⟨ad, c, hv, .inl hnil⟩
  refine ⟨ad, c, hv, h1.imp id ?_⟩
  rintro ⟨b, o, ha, hb, hc⟩
  have hb0 := hr hnil b o c (by rw [hv, ha])
  refine ⟨b, o, ha, Nat.lt_of_lt_of_le hb t.size, fun j hj => ?_⟩
  rw [World.cell?_of_block (t.block b hb (fun e => by have := hlt b e.symm; omega))]
  exact hc j hj

set_option maxRecDepth 100000 in
set_option maxHeartbeats 2000000 in
theorem rkeys_bad {w : World} {v : Value} (p : Pg) (h : Page.Rows w v p.rows) (hb : headB p = false) :
    Calls Tryd.prog 40 #[pgV p v] w fun e w' => e = .returned (.tuple #[.slice none 0 0, .bool false]) ∧ Below w.heap.size w w' := by
  obtain ⟨ad, c, rfl, _⟩ := id h
  have hh : (p.kind = 1 → 1 ≤ p.level) ∧ (p.kind = 2 → p.level < 1 ∨ p.rows.length < 1) := by
    unfold headB at hb
    simp only [Bool.or_eq_false_iff, Bool.and_eq_false_iff, decide_eq_false_iff_not] at hb
    omega
  have B := Lib.hid (fun o => below_new w o)
  obtain ⟨kind, level, id, lsn, next, rows⟩ := p
  simp only at *
  generalize rows.length = n at *
  clear hb h
  unfold pgV
  simp only
  by_cases k1 : kind = 1
  · subst k1
    have := hh.1 rfl
    clear hh
    go_enter Tryd.func40, Tryd.ntmps40
    go_wp2_with fail
    go_ret2
    exact ⟨rfl, B.out _⟩
  have e1 : ((kind : Int) != 1) = true := by simp; omega
  have e1' : ((kind : Int) == 1) = false := by simp; omega
  by_cases k2 : kind = 2
  · subst k2
    by_cases hl : level < 1
    · clear hh e1 e1' k1
      go_enter Tryd.func40, Tryd.ntmps40
      go_wp2_with fail
      go_ret2
      exact ⟨rfl, B.out _⟩
    · have hn : n < 1 := by have := hh.2 rfl; omega
      clear hh e1 e1' k1
      go_enter Tryd.func40, Tryd.ntmps40
      go_wp2_with fail
      go_ret2
      exact ⟨rfl, B.out _⟩
  have e2 : ((kind : Int) != 2) = true := by simp; omega
  clear hh k1 k2
  go_enter Tryd.func40, Tryd.ntmps40
  go_wp2_with fail
  go_ret2
  exact ⟨rfl, B.out _⟩

end Go.Proofs.YtbdbnpcbbebelaaDoor.Node

namespace Go.Proofs.YtbdbnpcbbebelaaDoor.Node
open Go.RowKit
open Go.Proofs.YtbdbnpcbbebelaaDoor.Page (Pg nth used pgV pgC)
open Go.Proofs.YtbdbnpcbbebelaaDoor.Row (decR decN okR okE)
open Go.Proofs.YtbdbnpcbbebelaaDoor.Key (cmpOf)
attribute [local go_sem ↓] Go.wp_at_zero Go.wp_at_succ

/-- what a call that tells the keys answers -/
def KeysP (p : Pg) (w : World) (e : Ending) (w' : World) : Prop := ∃ u, e = .returned (.tuple #[u, .bool (keysB p)]) ∧ Slot.Tx w w' u (keysOf p) ∧ Below w.heap.size w w'
theorem KeysP.no {p : Pg} {w w' : World} (h : keysB p = false) (b : Below w.heap.size w w') : KeysP p w (.returned (.tuple #[.slice none 0 0, .bool false])) w' := by
  refine ⟨_, by rw [h], ?_, b⟩
  have e : keysOf p = [] := by unfold keysOf; rw [h]; rfl
  rw [e]
  exact Slot.Tx.nil w b.size
theorem KeysP.yes {p : Pg} {w w' : World} {u : Value} (h : keysB p = true) (t : Slot.Tx w w' u (keysL p.kind p.rows)) (b : Below w.heap.size w w') : KeysP p w (.returned (.tuple #[u, .bool true])) w' := by
  refine ⟨_, by rw [h], ?_, b⟩
  have e : keysOf p = keysL p.kind p.rows := by unfold keysOf; rw [h]; rfl
  rw [e]
  exact t
theorem head_two {p : Pg} (h : headB p = true) : (p.kind = 1 ∧ p.level = 0) ∨ (p.kind = 2 ∧ 1 ≤ p.level ∧ 1 ≤ p.rows.length) := by
  simpa [headB] using h

set_option maxRecDepth 100000 in
set_option maxHeartbeats 4000000 in
theorem rkeys_good {w : World} {v : Value} (p : Pg) (h : Page.Rows w v p.rows) (hu : used p.rows ≤ 1000000) (hb : headB p = true) :
    Calls Tryd.prog 40 #[pgV p v] w (KeysP p w) := by
  obtain ⟨ad, c, rfl, hr⟩ := id h
  obtain ⟨n, hn⟩ : ∃ n, n = p.rows.length := ⟨_, rfl⟩
  have hn2 : n ≤ 250000 := by have := Page.used_len p.rows; omega
  have h2 := head_two hb
  have N := Lib.hid hn
  rw [← hn] at h hr h2 ⊢
  have H0 := Lib.hid h
  have T0 := Lib.hid (Pb.start h)
  have OLD := Lib.hid (show p.rows ≠ [] → ∀ b o c', (.slice ad n c : Value) = .slice (some ⟨b, o, none⟩) p.rows.length c' → b < w.heap.size from fun hnil b o c' e => by
    simp only [Value.slice.injEq] at e
    obtain ⟨rfl, e2, rfl⟩ := e
    rcases hr with hr | ⟨b', o', e3, hb', _⟩
    · exact absurd hr hnil
    · simp only [Option.some.injEq, Addr.mk.injEq] at e3
      rw [e3.1]; exact hb')
  have NO := Lib.hid (fun (k : Nat) (hk : k < n) (ho : okAt p.kind p.rows k = false) => (show keysB p = false by unfold keysB; rw [upB_no ho (by rw [← hn]; exact hk), Bool.and_false]))
  have YES := Lib.hid (fun (ho : upB p.kind p.rows n = true) => (show keysB p = true by unfold keysB; rw [hb, ← hn, ho]; rfl))
  have U := Lib.hid hu
  clear h hr hu hb hn
  unfold pgV
  obtain ⟨a0, a1, a2, a3, a4, a5⟩ := T0.out.six
  unfold pgC at *
  go_enter Tryd.func40, Tryd.ntmps40
  go_upto_region 1 with fail
  generalize w.alloc _ = W1 at *
  obtain ⟨g, hg⟩ : ∃ g, g = w.heap.size := ⟨_, rfl⟩
  rw [← hg] at T0 a0 a1 a2 a3 a4 a5 ⊢
  have HG := Lib.hid hg
  clear hg
  go_cut [41] (fun s wx => s = .bool false ∧ wx = W1)
  case first =>
    rcases h2 with ⟨k1, k2⟩ | ⟨k1, k2, k3⟩
    · have e1 : ((p.kind : Int) != 1) = false := by simp; omega
      have e2 : ((p.kind : Int) == 1) = true := by simp; omega
      have e3 : ((p.kind : Int) == 2) = false := by simp; omega
      have e4 : ¬ 0 < p.level := by omega
      clear k1 k2 NO YES
      go_wp2_with fail
      go_meet
      exact ⟨rfl, rfl⟩
    · have e1 : ((p.kind : Int) != 1) = true := by simp; omega
      have e2 : ((p.kind : Int) == 1) = false := by simp; omega
      have e3 : ((p.kind : Int) == 2) = true := by simp; omega
      have e5 : ((p.kind : Int) != 2) = false := by simp; omega
      clear k1 NO YES
      go_wp2_with fail
      go_meet
      exact ⟨by rw [decide_eq_false (by omega), decide_eq_false (by omega)]; rfl, rfl⟩
  case rest =>
    obtain ⟨rfl, rfl⟩ := hcut
    clear h2 a0 a1 a2 a3 a4 a5
    have TX0 := Lib.hid (Slot.Tx.nil w T0.out.below.size)
    go_wp2_with fail
    go_loopw [4, 5] (fun v i wr => ∃ (k : Nat) (L : List ByteArray), k ≤ n ∧ i = .int .i64 (k : Int) ∧ L = keysL p.kind (p.rows.take k) ∧ Slot.Tx w wr v L ∧ Pb w wr g p (.slice ad n c) ∧ upB p.kind p.rows k = true) (fun _ i _ => n - (intOf i).toNat)
    case atStart => exact ⟨0, [], by omega, by go_num, rfl, TX0.out, T0.out, rfl⟩
    case round =>
      obtain ⟨k, L, hk, rfl, hL, htx, hpb, hup⟩ := hrel
      clear TX0 T0
      have HT := Lib.hid htx
      have HP := Lib.hid hpb
      have HLL := Lib.hid hL
      have HU := Lib.hid hup
      obtain ⟨a0, a1, a2, a3, a4, a5⟩ := hpb.six
      clear htx hpb hL hup
      by_cases hlt : k < n
      · have hlt2 : k < p.rows.length := by rw [← N.out]; exact hlt
        have hrw : Page.Rows wr (.slice ad p.rows.length c) p.rows := by rw [← N.out]; exact HP.out.rows
        obtain ⟨b, o, rfl, hb0, hc⟩ := hrw.at hlt2
        have hsz := Page.nth_size hlt2
        obtain ⟨S, hS⟩ : ∃ S, S = nth p.rows k := ⟨_, rfl⟩
        rw [← hS] at hc hsz
        have hs1 : S.size ≤ 1000000 := by have := U.out; omega
        have K := Lib.hid (fun W => keyof_any p.kind S W (by omega))
        have HS := Lib.hid hS
        have KSF := Lib.hid (show kS p.kind S = kS p.kind (nth p.rows k) by rw [hS])
        have KZ : (kS p.kind S).size ≤ 1000000 := key_size hs1
        obtain ⟨ad2, cap, rfl⟩ := HT.out.shape
        have eLn : L.length = k := by rw [HLL.out, keys_len, List.length_take]; omega
        rw [eLn] at HT ⊢
        have EL := Lib.hid eLn
        have AT := Lib.hid (show okAt p.kind p.rows k = (kB p.kind S && (decide (k = 0) || decide (cmpOf (kS p.kind (nth p.rows (k - 1))) (kS p.kind S) < 0))) by rw [hS]; rfl)
        have PREV := Lib.hid (fun (j : Nat) (hj : j + 1 = k) => (show L.getD j ⟨#[]⟩ = kS p.kind (nth p.rows (k - 1)) ∧ (kS p.kind (nth p.rows (k - 1))).size ≤ 1000000 by
          have hj2 : j < p.rows.length := by omega
          have e0 : k - 1 = j := by omega
          rw [e0]
          refine ⟨?_, key_size (by have := Page.nth_size hj2; have := U.out; omega)⟩
          rw [HLL.out]
          have := nth_keys (kind := p.kind) (l := p.rows.take k) (k := j) (by rw [List.length_take]; omega)
          have e1 : nth (p.rows.take k) j = nth p.rows j := by
            unfold Page.nth
            rw [List.getD_eq_getElem?_getD, List.getD_eq_getElem?_getD, List.getElem?_take, if_pos (by omega)]
          rw [e1] at this
          exact this))
        have c9 : wr.drew.cell? ⟨b, o + k, none⟩ = some (.string S) := hc
        have P0 := Lib.hid (HP.out.later ((Below.refl _ _).drew))
        clear hrw hsz hS eLn
        generalize kS p.kind S = ks at *
        generalize kB p.kind S = kb at *
        have C9 := Lib.hid c9
        clear c9 hc
        go_wp2_with fail
        clear a0 a1 a2 a3 a4 a5
        go_region_held3 (fun w' => w'.cell? ⟨g, 0, none⟩ = some (.int .u8 (p.kind : Int)) ∧ w'.cell? ⟨g, 5, none⟩ = some (.slice (some ⟨b, o, none⟩) n c) ∧ w'.cell? ⟨b, o + k, none⟩ = some (.string S)) (first | exact ⟨P0.out.six.1, P0.out.six.2.2.2.2.2, C9.out⟩ | exact ⟨P1.six.1, P1.six.2.2.2.2.2, c10⟩)
          (first | (go_at_call 38; refine (K.out _).mono ?_; rintro e w2 ⟨rfl, b2⟩; have P1 := P0.out.later b2; have c10 := (World.cell?_of_block (b2.block b hb0)).trans C9.out))
        have HP2 := Lib.hid P1
        have HT2 := Lib.hid ((HT.out.later ((Below.refl _ _).drew)).later b2)
        clear P1 c10 P0 C9 b2 HT HP K
        go_upto_region 8 with fail
        go_cut [75] (fun s wx => s = .bool (!okAt p.kind p.rows k) ∧ Slot.Tx w wx (.slice ad2 k cap) L ∧ Pb w wx g p (.slice (some ⟨b, o, none⟩) n c))
        case first =>
          clear NO YES
          cases kb with
          | false =>
            clear PREV
            go_wp2_with fail
            go_meet
            exact ⟨by rw [AT.out]; rfl, HT2.out, HP2.out⟩
          | true =>
            by_cases hk0 : k = 0
            · subst hk0
              clear PREV
              go_wp2_with fail
              go_meet
              exact ⟨by rw [AT.out]; rfl, HT2.out, HP2.out⟩
            · obtain ⟨j, rfl⟩ : ∃ j, k = j + 1 := ⟨k - 1, by omega⟩
              obtain ⟨q1, q2⟩ := PREV.out j rfl
              have hat : Slot.Tx w w2 (.slice ad2 L.length cap) L := by rw [EL.out]; exact HT2.out
              obtain ⟨g3, rfl, hc3⟩ := hat.at (k := j) (by rw [EL.out]; omega)
              rw [q1] at hc3
              obtain ⟨pr, hpr⟩ : ∃ x, x = kS p.kind (nth p.rows (j + 1 - 1)) := ⟨_, rfl⟩
              rw [← hpr] at hc3 q2 AT
              have KC := Lib.hid (fun W => Key.rcompare_any pr ks W (by unfold maxLen; omega) (by unfold maxLen; omega))
              have AT2 : okAt p.kind p.rows (j + 1) = decide (cmpOf pr ks < 0) := by rw [AT.out]; simp
              generalize cmpOf pr ks = cm at *
              have ATT := Lib.hid AT2
              clear PREV hat q1 hpr AT AT2
              go_wp2_with fail
              refine (KC.out _).mono ?_
              rintro e w3 ⟨rfl, b3⟩
              have HT3 := Lib.hid (HT2.out.later b3)
              have HP3 := Lib.hid (HP2.out.later b3)
              clear hc3 b3 KC HT2 HP2
              go_wp2_with fail
              go_meet
              exact ⟨by rw [ATT.out, ← decide_not]; congr 1; rw [decide_eq_decide]; omega, HT3.out, HP3.out⟩
        case rest =>
          obtain ⟨rfl, t3, p3⟩ := hcut
          have HT3 := Lib.hid t3
          have HP3 := Lib.hid p3
          clear t3 p3 HT2 HP2 PREV
          cases hok : okAt p.kind p.rows k with
          | false =>
            have HN := Lib.hid (NO.out k hlt hok)
            clear NO YES hok HT3
            go_wp2_with fail
            go_ret2
            exact KeysP.no HN.out HP3.out.below
          | true =>
            have UP := Lib.hid (show upB p.kind p.rows (k + 1) = true by rw [upB_succ, HU.out, hok]; rfl)
            obtain ⟨t1, t2, t3, t4⟩ := app_one (S := ks) HT3.out HP3.out.below (by rw [EL.out]; omega)
            have T1 := Lib.hid t1
            have T2 := Lib.hid t2
            have T3 := Lib.hid t3
            have HP4 := Lib.hid (HP3.out.later (below_new _ (.cells #[.string ks] 9)))
            clear t1 t2 t3 t4 NO YES hok HT3 HP3
            go_wp2_with (first | (refine Slot.wpList_app (W0 := w) (news := [ks]) rfl _ _ rfl T1.out T2.out T3.out rfl rfl ?_; intro v3 w3 t3 g3))
            have HP5 := Lib.hid (HP4.out.grown T1.out g3 OLD.out)
            have HT5 := Lib.hid t3
            clear t3 g3 T1 T2 T3 HP4
            go_wp2_with fail
            go_roundw
            case rel => exact ⟨k + 1, L ++ [ks], by omega, by go_num, by rw [Page.nth_take hlt2, HLL.out, KSF.out]; simp [keysL], HT5.out, HP5.out, UP.out⟩
            case measure => simp [intOf]; omega
      · obtain rfl : k = n := by omega
        have HY := Lib.hid (YES.out HU.out)
        have eL : L = keysL p.kind p.rows := by rw [HLL.out, List.take_of_length_le (by rw [← N.out]; exact Nat.le_refl _)]
        rw [eL] at HT
        clear NO YES
        go_wp2_with fail
        go_ret2
        exact KeysP.yes HY.out HT.out HP.out.below

theorem rkeys_any {w : World} {v : Value} (p : Pg) (h : Page.Rows w v p.rows) (hu : used p.rows ≤ 1000000) :
    Calls Tryd.prog 40 #[pgV p v] w (KeysP p w) := by
  cases hb : headB p with
  | true => exact rkeys_good p h hu hb
  | false =>
    refine (rkeys_bad p h hb).mono ?_
    rintro e w' ⟨rfl, b⟩
    exact KeysP.no (by unfold keysB; rw [hb, Bool.false_and]) b

end Go.Proofs.YtbdbnpcbbebelaaDoor.Node
