/- Walks: what was stored last is loaded, and behind a crash. -/
import Derived.Test.YtfcibccipkokoaaZKM
import Derived.Test.YtfcibccipkokoaaZF
import Derived.Laws.BitsAllLaws
import Derived.Deep.CutBlock
namespace Go.Proofs.Ytfcibccipkokoaa.Mas
open Go.RowKit
open Go.Proofs.Ytfcibccipkokoaa.Disk (D Rep Own now burnt fullL)
open Go.Proofs.Ytfcibccipkokoaa.Seq (Is)
attribute [local go_sem ↓] Go.wp_at_zero Go.wp_at_succ

theorem firstM_wf (k : Nat) (h : k < 65536) : (⟨k + 1, 1, 0, 1, false⟩ : Ms).wf := ⟨by show k + 1 < _; omega, by show 1 < _; omega, by show 0 < _; omega, by show 1 < _; omega⟩
theorem firstM_ok (k : Nat) : okM ⟨k + 1, 1, 0, 1, false⟩ = true := okM_mk (Nat.succ_pos _) (by show 0 < 1; decide) (by show 0 < 1; decide) (.inl rfl)

/-- two new boxes of one master, whichever is made first -/
structure Tw (V : World) (m : Ms) : Prop where
  b0 : Below V.heap.size V V.drew
  b1 : Below V.heap.size V (V.drew.alloc (.cells (msC Ms.zero) 40))
  b2 : Below V.heap.size V ((V.drew.alloc (.cells (msC Ms.zero) 40)).alloc (.cells (msC Ms.zero) 40))
  ha : ((V.drew.alloc (.cells (msC Ms.zero) 40)).alloc (.cells (msC Ms.zero) 40)).heap[V.drew.heap.size]? = some (.cells (msC Ms.zero) 40 (0, 0))
  hb : ((V.drew.alloc (.cells (msC Ms.zero) 40)).alloc (.cells (msC Ms.zero) 40)).heap[(V.drew.alloc (.cells (msC Ms.zero) 40)).heap.size]? = some (.cells (msC Ms.zero) 40 (0, 0))
  ca : Below V.heap.size V (((V.drew.alloc (.cells (msC Ms.zero) 40)).alloc (.cells (msC Ms.zero) 40)).setRow V.drew.heap.size (msC m))
  cb : Below V.heap.size V (((V.drew.alloc (.cells (msC Ms.zero) 40)).alloc (.cells (msC Ms.zero) 40)).setRow (V.drew.alloc (.cells (msC Ms.zero) 40)).heap.size (msC m))
  ka : (((V.drew.alloc (.cells (msC Ms.zero) 40)).alloc (.cells (msC Ms.zero) 40)).setRow V.drew.heap.size (msC m)).heap[(V.drew.alloc (.cells (msC Ms.zero) 40)).heap.size]? = some (.cells (msC Ms.zero) 40 (0, 0))
  kb : (((V.drew.alloc (.cells (msC Ms.zero) 40)).alloc (.cells (msC Ms.zero) 40)).setRow (V.drew.alloc (.cells (msC Ms.zero) 40)).heap.size (msC m)).heap[V.drew.heap.size]? = some (.cells (msC Ms.zero) 40 (0, 0))
  da : Below V.heap.size V ((((V.drew.alloc (.cells (msC Ms.zero) 40)).alloc (.cells (msC Ms.zero) 40)).setRow V.drew.heap.size (msC m)).setRow (V.drew.alloc (.cells (msC Ms.zero) 40)).heap.size (msC m))
  db : Below V.heap.size V ((((V.drew.alloc (.cells (msC Ms.zero) 40)).alloc (.cells (msC Ms.zero) 40)).setRow (V.drew.alloc (.cells (msC Ms.zero) 40)).heap.size (msC m)).setRow V.drew.heap.size (msC m))
/-- two boxes of the call's own, that hold one master -/
structure Two (V W : World) (a b : Nat) (m : Ms) : Prop where
  ne : a ≠ b
  fa : At W a m
  fb : At W b m
  ha : V.heap.size ≤ a
  hb : V.heap.size ≤ b
  below : Below V.heap.size V W
theorem Tw.mk' (V : World) (m : Ms) : Tw V m := by
  obtain ⟨U, hU⟩ : ∃ U, U = V.drew := ⟨_, rfl⟩
  have s0 : U.heap.size = V.heap.size := by rw [hU]; rfl
  have b0 : Below V.heap.size V U := by rw [hU]; exact (Below.refl _ _).drew
  obtain ⟨W1, h1⟩ : ∃ W, W = U.alloc (.cells (msC Ms.zero) 40) := ⟨_, rfl⟩
  have s1 : W1.heap.size = U.heap.size + 1 := by rw [h1]; simp
  have b1 : Below V.heap.size V W1 := by rw [h1]; exact b0.alloc (by omega) _
  have n1 : W1.heap[U.heap.size]? = some (.cells (msC Ms.zero) 40 (0, 0)) := by rw [h1]; exact heap_alloc_new _ _
  obtain ⟨W2, h2⟩ : ∃ W, W = W1.alloc (.cells (msC Ms.zero) 40) := ⟨_, rfl⟩
  have b2 : Below V.heap.size V W2 := by rw [h2]; exact b1.alloc (by omega) _
  have n2 : W2.heap[W1.heap.size]? = some (.cells (msC Ms.zero) 40 (0, 0)) := by rw [h2]; exact heap_alloc_new _ _
  have m2 : W2.heap[U.heap.size]? = some (.cells (msC Ms.zero) 40 (0, 0)) := by rw [h2, Below.heap_alloc W1 _ _ (by omega)]; exact n1
  have ca := below_setRow b2 (show V.heap.size ≤ U.heap.size by omega) (msC m)
  have cb := below_setRow b2 (show V.heap.size ≤ W1.heap.size by omega) (msC m)
  subst hU
  subst h1
  subst h2
  exact ⟨b0, b1, b2, m2, n2, ca, cb, (setRow_other _ _ _ _ (by omega)).trans n2, (setRow_other _ _ _ _ (by omega)).trans m2, below_setRow ca (by omega) _, below_setRow cb (by omega) _⟩
theorem Tw.ea {V : World} {m : Ms} (T : Tw V m) : Two V ((((V.drew.alloc (.cells (msC Ms.zero) 40)).alloc (.cells (msC Ms.zero) 40)).setRow V.drew.heap.size (msC m)).setRow (V.drew.alloc (.cells (msC Ms.zero) 40)).heap.size (msC m)) V.drew.heap.size (V.drew.alloc (.cells (msC Ms.zero) 40)).heap.size m := by
  have s1 : (V.drew.alloc (.cells (msC Ms.zero) 40)).heap.size = V.drew.heap.size + 1 := by simp
  have s0 : V.drew.heap.size = V.heap.size := rfl
  exact ⟨by omega, (setRow_other _ _ _ _ (by omega)).trans (setRow_heap _ _ _ _ _ _ T.ha), setRow_heap _ _ _ _ _ _ T.ka, by omega, by omega, T.da⟩
theorem Tw.eb {V : World} {m : Ms} (T : Tw V m) : Two V ((((V.drew.alloc (.cells (msC Ms.zero) 40)).alloc (.cells (msC Ms.zero) 40)).setRow (V.drew.alloc (.cells (msC Ms.zero) 40)).heap.size (msC m)).setRow V.drew.heap.size (msC m)) (V.drew.alloc (.cells (msC Ms.zero) 40)).heap.size V.drew.heap.size m := by
  have s1 : (V.drew.alloc (.cells (msC Ms.zero) 40)).heap.size = V.drew.heap.size + 1 := by simp
  have s0 : V.drew.heap.size = V.heap.size := rfl
  exact ⟨by omega, (setRow_other _ _ _ _ (by omega)).trans (setRow_heap _ _ _ _ _ _ T.hb), setRow_heap _ _ _ _ _ _ T.kb, by omega, by omega, T.db⟩

/-- what stands at the head of each round: both boxes hold the newest one -/
structure Kp (w wr : World) (p gw gn : Nat) (d : D) (n : Ms) (i : Nat) : Prop where
  own : Own w wr (fun x => x = gw ∨ x = gn) [(p, d)]
  fa : At wr gw n
  fb : At wr gn n
  ne : gw ≠ gn
  hold : Holds d n
  cnt : n.count ≤ 65536 + i
  fu : 0 ≤ d.fuse ∧ d.fuse ≤ 39
/-- what stands behind the rounds -/
def KEnd (w wr : World) (p gw gn : Nat) (kp : Bool) : Prop :=
  ∃ (d : D) (x y : Ms), Own w wr (fun x => x = gw ∨ x = gn) [(p, d)] ∧ At wr gw x ∧ At wr gn y ∧ d.loose.length ≤ 1 ∧ (Holds (d.crash [kp, kp]) x ∨ Holds (d.crash [kp, kp]) y)
theorem Kp.end {w wr : World} {p gw gn : Nat} {d : D} {n : Ms} {i : Nat} (h : Kp w wr p gw gn d n i) (kp : Bool) : KEnd w wr p gw gn kp :=
  ⟨d, n, n, h.own, h.fa, h.fb, by rw [h.hold.loose]; exact Nat.zero_le _, .inl (h.hold.crash _)⟩

theorem At.set {w : World} {g : Nat} {m m' : Ms} (h : At w g m) (j : Nat) (v : Value) (e : (msC m).setIfInBounds j v = msC m') : At (w.setCell ⟨g, j, none⟩ v) g m' := by
  unfold At
  rw [heap_setCell_same w g j _ _ _ h, e]
theorem At.aside {w : World} {g h : Nat} {m : Ms} (a : At w h m) (hne : h ≠ g) (j : Nat) (v : Value) : At (w.setCell ⟨g, j, none⟩ v) h m := (heap_setCell_other _ _ _ _ (show h ≠ g from hne)).trans a
theorem At.lt {w : World} {g : Nat} {m : Ms} (h : At w g m) : g < w.heap.size := (Array.getElem?_eq_some_iff.1 h).1
/-- a round: the newest one stands in both boxes, the next one in its own -/
structure Rd (w wr : World) (p gw gn gm : Nat) (d : D) (n x : Ms) : Prop where
  own : Own w wr (fun y => y = gw ∨ y = gn ∨ y = gm) [(p, d)]
  fa : At wr gw n
  fb : At wr gn n
  fm : At wr gm x
  ne : gw ≠ gn
  na : gw ≠ gm
  nb : gn ≠ gm
theorem Rd.start {w wr : World} {p gw gn : Nat} {d : D} {n : Ms} {i : Nat} (h : Kp w wr p gw gn d n i) (x : Ms) : Rd w (wr.alloc (.cells (msC x) 40)) p gw gn wr.heap.size d n x :=
  ⟨h.own.laterE (below_new wr _) (fun y hy => by
      rcases hy with rfl | rfl | rfl
      · exact .inl (.inl rfl)
      · exact .inl (.inr rfl)
      · exact .inr (by simp)), h.fa.later (below_new wr _), h.fb.later (below_new wr _), At.new wr x, h.ne, by have := h.fa.lt; omega, by have := h.fb.lt; omega⟩
theorem Rd.set {w wr : World} {p gw gn gm : Nat} {d : D} {n x x' : Ms} (h : Rd w wr p gw gn gm d n x) (j : Nat) (v : Value) (e : (msC x).setIfInBounds j v = msC x') : Rd w (wr.setCell ⟨gm, j, none⟩ v) p gw gn gm d n x' :=
  ⟨h.own.setE (x := ⟨gm, j, none⟩) (.inr (.inr rfl)) v, h.fa.aside h.na j v, h.fb.aside h.nb j v, h.fm.set j v e, h.ne, h.na, h.nb⟩

theorem own_row {w a : World} {E : Nat → Prop} {L : List (Nat × D)} (h : Own w a E L) {g : Nat} (hg : E g) (cs : Array Value) : Own w (a.setRow g cs) E L := by
  obtain ⟨Fs, h1, h2, h3, h4, h5⟩ := h.ex
  have hs : (a.setRow g cs).heap.size = a.heap.size := by simp [World.setRow]
  exact ⟨below_setRow h.below (h.ext _ hg).2 cs, fun b hb => by rw [hs]; exact h.ext b hb, Fs, fun i y hy => (h1 i y hy).far (by omega) fun b hb => setRow_other _ _ _ _ (fun e => h4 i b hb (e ▸ hg)), fun i b hb => by rw [hs]; exact h2 i b hb, h3, h4, h5⟩
theorem At.row {w : World} {g : Nat} {m : Ms} (h : At w g m) (m' : Ms) : At (w.setRow g (msC m')) g m' := setRow_heap _ _ _ _ _ _ h
theorem At.rowaside {w : World} {g h : Nat} {m : Ms} (a : At w h m) (hne : h ≠ g) (cs : Array Value) : At (w.setRow g cs) h m := (setRow_other _ _ _ _ hne).trans a
/-- both boxes get what they shall -/
theorem Rd.rows {w wr : World} {p gw gn gm : Nat} {d : D} {n x : Ms} (h : Rd w wr p gw gn gm d n x) (a b : Ms) :
    Own w ((wr.setRow gw (msC a)).setRow gn (msC b)) (fun y => y = gw ∨ y = gn) [(p, d)] ∧ At ((wr.setRow gw (msC a)).setRow gn (msC b)) gw a ∧ At ((wr.setRow gw (msC a)).setRow gn (msC b)) gn b ∧ At ((wr.setRow gw (msC a)).setRow gn (msC b)) gm x :=
  ⟨(own_row (own_row h.own (.inl rfl) _) (.inr (.inl rfl)) _).laterE (Below.refl _ _) (fun y hy => by
      rcases hy with rfl | rfl
      · exact .inl (.inl rfl)
      · exact .inl (.inr (.inl rfl))), (h.fa.row a).rowaside h.ne _, (h.fb.rowaside h.ne.symm _).row b, (h.fm.rowaside h.na.symm _).rowaside h.nb.symm _⟩
theorem own_load_down {w wi : World} {E : Nat → Prop} {p : Nat} {d : D} (S : Own w wi E [(p, d)]) (hf : d.fuse = 0) (n : Nat) (hn : n ≤ 1000000) :
    Calls Try.prog 22 #[.pointer (some ⟨p, 0, none⟩), .int .i64 (n : Int)] wi fun e w' => e = .returned (.tuple #[msV Ms.zero, .int .i64 40]) ∧ Below wi.heap.size wi w' := by
  obtain ⟨F, r, _⟩ := S.call (i := 0) rfl
  exact load_down r hf n hn

theorem ms_cases' (a b : Ms) : a = b ∨ (a.count ≠ b.count ∨ (a.count = b.count ∧ a.life ≠ b.life) ∨ (a.count = b.count ∧ a.life = b.life ∧ a.check ≠ b.check) ∨ (a.count = b.count ∧ a.life = b.life ∧ a.check = b.check ∧ a.first ≠ b.first) ∨ (a.count = b.count ∧ a.life = b.life ∧ a.check = b.check ∧ a.first = b.first ∧ a.clean ≠ b.clean)) := by
  by_cases h : a = b
  · exact .inl h
  · refine .inr ?_
    obtain ⟨c, l, k, f, x⟩ := a
    obtain ⟨c', l', k', f', x'⟩ := b
    simp only [Ms.mk.injEq, not_and] at h
    simp only
    by_cases h1 : c = c'
    · by_cases h2 : l = l'
      · by_cases h3 : k = k'
        · by_cases h4 : f = f'
          · exact .inr (.inr (.inr (.inr ⟨h1, h2, h3, h4, h h1 h2 h3 h4⟩)))
          · exact .inr (.inr (.inr (.inl ⟨h1, h2, h3, h4⟩)))
        · exact .inr (.inr (.inl ⟨h1, h2, h3⟩))
      · exact .inr (.inl ⟨h1, h2⟩)
    · exact .inl h1

theorem own_fuse {w wi : World} {E : Nat → Prop} {p : Nat} {d : D} (S : Own w wi E [(p, d)]) (n : Int) (h0 : 0 ≤ n) (h1 : n ≤ 9223372036854775807) :
    Calls Try.prog 25 #[.pointer (some ⟨p, 0, none⟩), .int .i64 n] wi fun e w' => e = .returned (.int .i64 0) ∧ (Own w w' E [(p, d.setFuse n)] ∧ ∀ b, E b → w'.heap[b]? = wi.heap[b]?) := by
  obtain ⟨F, r, _, c⟩ := S.call (i := 0) rfl
  exact (Disk.fuse_any r h0 h1).mono fun e w' ⟨a, b⟩ => ⟨a, c w' _ (Disk.Rep.g0 b)⟩
theorem own_crash {w wi : World} {E : Nat → Prop} {p : Nat} {d : D} (S : Own w wi E [(p, d)]) (hl : d.loose.length ≤ 1000) {kv : Value} {ks : List Bool} (hk : Disk.Bools wi kv ks) (hkl : ks.length ≤ 1000) (hE : ∀ b, kv.ownBlock = some b → E b) :
    Calls Try.prog 26 #[.pointer (some ⟨p, 0, none⟩), kv] wi fun e w' => e = .returned (.int .i64 0) ∧ (Own w w' E [(p, d.crash ks)] ∧ ∀ b, E b → w'.heap[b]? = wi.heap[b]?) := by
  obtain ⟨F, r, n, c⟩ := S.call (i := 0) rfl
  exact (Disk.crash_any r (by omega) hk (by omega) fun b hb => n b (hE b hb)).mono fun e w' ⟨a, b⟩ => ⟨a, c w' _ (Disk.Rep.g0 b)⟩

set_option linter.unusedSimpArgs false in
set_option maxRecDepth 100000 in
set_option maxHeartbeats 8000000 in
theorem keeps_walk {w : World} {v : Value} {l : List Ms} {from' fu : Int} {kp : Bool} (hc : Is msS w v l) (hl : l.length ≤ 140737488351232) (hw : ∀ m ∈ l, m.wf) (hf : 0 ≤ from' ∧ from' ≤ 65535) (hu : 0 ≤ fu ∧ fu ≤ 255) :
    Calls Try.prog 6 #[v, .int .u16 from', .int .u8 fu, .bool kp] w fun e w' => e = .returned (.bool true) ∧ Below w.heap.size w w' := by
  obtain ⟨k, rfl⟩ : ∃ k : Nat, from' = (k : Int) := ⟨from'.toNat, by omega⟩
  have hk : k < 65536 := by omega
  have HC := Lib.hid hc
  have HW := Lib.hid hw
  obtain ⟨ad, cap, rfl⟩ := hc.shape
  have KW := Lib.hid works_any
  have KN := Lib.hid (show Calls Try.prog 19 #[.int .i64 2] w _ from Disk.new_any 2 w (by omega) (by omega))
  clear hc hw
  go_enter Try.func6, Try.ntmps6
  by_cases hx : 20 < l.length ∨ l = []
  · have hx : 20 < l.length ∨ ¬ 20 < l.length ∧ l = [] := by
      by_cases h : 20 < l.length
      · exact .inl h
      · exact .inr ⟨h, hx.resolve_left h⟩
    rcases hx with hA | ⟨hA, hB⟩
    all_goals
      go_wp2_with fail
      refine (KW.out _).mono ?_
      rintro e w2 ⟨rfl, k2⟩
      go_wp2_with fail
      go_ret
      exact ⟨rfl, k2⟩
  have hl0 : ¬ 20 < l.length := fun h => hx (.inl h)
  have hl1 : ¬ l = [] := fun h => hx (.inr h)
  have x1 : decide ((20 : Int) < (l.length : Int)) = false := decide_eq_false (by omega)
  have x2 : ((l.length : Int) == 0) = false := by rw [beq_eq_false_iff_ne]; intro e; exact hl1 (List.eq_nil_of_length_eq_zero (by omega))
  have HL := Lib.hid hl0
  clear hx hl0 hl1
  go_wp2_with fail
  refine KN.out.mono ?_
  rintro e w1 ⟨rfl, r1, k1⟩
  have S1 := Lib.hid (own_start ⟨r1, k1⟩)
  clear r1 k1 KN
  obtain ⟨p, hp⟩ : ∃ p, p = w.heap.size + 1 := ⟨_, rfl⟩
  rw [← hp] at S1 ⊢
  clear hp
  have z1 : IntKind.u64.wrap (k : Int) = (k : Int) := by rw [IntKind.wrap_u64]; omega
  have z2 : IntKind.u64.wrap ((k : Int) + 1) = (k : Int) + 1 := by rw [IntKind.wrap_u64]; omega
  obtain ⟨q, hq⟩ : ∃ q : Nat, (q : Int) = fu.tmod 40 := ⟨(fu % 40).toNat, by rw [Int.tmod_eq_emod_of_nonneg hu.1]; omega⟩
  have hq3 := hq.symm
  have hq39 : q ≤ 39 := by have := Int.tmod_lt_of_pos fu (show (0 : Int) < 40 by omega); omega
  have z3 : IntKind.i64.wrap (q : Int) = (q : Int) := by rw [IntKind.wrap_i64]; omega
  have hF : msC ⟨k + 1, 1, 0, 1, false⟩ = #[.int .u64 ((k : Int) + 1), .int .u64 1, .int .u64 0, .int .u64 1, .bool false] := rfl
  have HQ := Lib.hid hq39
  have HK := Lib.hid hk
  clear hq hq39
  go_upto_region 7 with fail
  have A2 := Lib.hid (At.new w1 ⟨k + 1, 1, 0, 1, false⟩)
  have S2 := Lib.hid (S1.out.laterE (E' := fun x => x = w1.heap.size) (below_new w1 (.cells (msC ⟨k + 1, 1, 0, 1, false⟩) 40)) (fun x hx => .inr (by simp; omega)))
  rw [hF] at A2 S2
  clear S1
  generalize w1.heap.size = g1 at *
  generalize World.alloc w1 _ = W2 at *
  obtain ⟨a0, a1, a2, a3, a4⟩ := A2.out.five
  have ST : Hid (Calls Try.prog 24 #[.pointer (some ⟨p, 0, none⟩), .int .i64 0, .agg #[.int .u64 ((k : Int) + 1), .int .u64 1, .int .u64 0, .int .u64 1, .bool false]] W2 fun e w' => e = .returned (.int .i64 0) ∧ (Own w w' (fun x => x = g1) [(p, storeD (D.new 2) (0 + (k + 1) % 2) (encL ⟨k + 1, 1, 0, 1, false⟩))] ∧ ∀ b, b = g1 → w'.heap[b]? = W2.heap[b]?)) :=
    Lib.hid (own_store S2.out ⟨k + 1, 1, 0, 1, false⟩ 0 (firstM_wf k HK.out) (firstM_ok k) (by show 0 + (k + 1) % 2 < 2; omega) (by decide) ⟨rfl, (store_first (firstM_wf k HK.out) (firstM_ok k)).2⟩)
  rw [Nat.zero_add] at ST
  go_wp2_with fail
  refine ST.out.mono ?_
  rintro e w3 ⟨rfl, s3, k3⟩
  have A3 := Lib.hid (show At w3 g1 _ from (k3 g1 rfl).trans A2.out)
  have FS := Lib.hid (own_fuse s3 (q : Int) (by omega) (by have := HQ.out; omega))
  have HH := Lib.hid ((Holds.first (firstM_wf k HK.out) (firstM_ok k) (-1)).fuse (q : Int))
  rw [← (store_first (firstM_wf k HK.out) (firstM_ok k)).1] at HH
  clear s3 k3 ST A2 S2 a0 a1 a2 a3 a4
  generalize storeD (D.new 2) _ _ = d0 at *
  go_wp2_with fail
  refine FS.out.mono ?_
  rintro e w4 ⟨rfl, s4, k4⟩
  have A4 := Lib.hid (show At w4 g1 _ from (k4 g1 rfl).trans A3.out)
  have S4 := Lib.hid s4
  have FU := Lib.hid (show 0 ≤ (d0.setFuse (q : Int)).fuse ∧ (d0.setFuse (q : Int)).fuse ≤ 39 from ⟨by show (0 : Int) ≤ q; omega, by show (q : Int) ≤ 39; have := HQ.out; omega⟩)
  clear s4 k4 FS A3 HQ hq3 z1 z2 z3 hF
  generalize d0.setFuse (q : Int) = d at *
  have CN := Lib.hid (show (⟨k + 1, 1, 0, 1, false⟩ : Ms).count ≤ 65536 from by show k + 1 ≤ 65536; have := HK.out; omega)
  generalize (⟨k + 1, 1, 0, 1, false⟩ : Ms) = m at *
  have T := Tw.mk' w4 m
  have SC := Lib.hid (fun W (b : Below w4.heap.size w4 W) => (A4.out.later b).five)
  clear A4
  go_upto_region 9 with fail
  go_cut [12, 13] (fun x y wx => ∃ a b, x = .pointer (some ⟨a, 0, none⟩) ∧ y = .pointer (some ⟨b, 0, none⟩) ∧ Two w4 wx a b m)
  case first =>
    -- the region
    refine wp_region_noPanic ?_
    refine wp_region_held_drew (S := fun w' => w'.cell? ⟨g1, 0, none⟩ = some (.int .u64 (m.count : Int)) ∧ w'.cell? ⟨g1, 1, none⟩ = some (.int .u64 (m.life : Int)) ∧ w'.cell? ⟨g1, 2, none⟩ = some (.int .u64 (m.check : Int)) ∧ w'.cell? ⟨g1, 3, none⟩ = some (.int .u64 (m.first : Int)) ∧ w'.cell? ⟨g1, 4, none⟩ = some (.bool m.clean)) (by kernel_rfl) (SC.out _ T.b0) (fun hHeld => ?_)
    refine wpAnyH_take (i := 0) (v := ?_) rfl (by kernel_rfl) (by kernel_rfl) (by kernel_rfl) (fun _ _ _ h => h) (Or.inl ⟨by rfl, ?_⟩) hHeld ?_
    rotate_left
    · (intro w hSw; (try dsimp only at hSw); go_simp; (try with_reducible rfl))
    simp only [List.getElem_toArray, List.getElem_cons_succ, List.getElem_cons_zero, Act.put, List.setIfInBounds_toArray, List.set_cons_zero, List.set_cons_succ]
    refine wpAnyH_take (i := 1) (v := ?_) rfl (by kernel_rfl) (by kernel_rfl) (by kernel_rfl) (fun _ _ _ h => h) (Or.inl ⟨by rfl, ?_⟩) hHeld ?_
    rotate_left
    · (intro w hSw; (try dsimp only at hSw); go_simp; (try with_reducible rfl))
    simp only [List.getElem_toArray, List.getElem_cons_succ, List.getElem_cons_zero, Act.put, List.setIfInBounds_toArray, List.set_cons_zero, List.set_cons_succ]
    refine wpAnyH_ready (rs := [2, 3]) (by kernel_rfl) (by simp) (AllReadyH.cons rfl (fun K hK => ?_) (AllReadyH.cons rfl (fun K hK => ?_) AllReadyH.nil))
    · skip
      refine step_al (some 12) (by rfl) (by rfl) (by rfl) ?_
      refine hK.out _ _ (SC.out _ T.b1) (fun hHeld => ?_)
      clear hK K
      simp only [List.getElem_toArray, List.getElem_cons_succ, List.getElem_cons_zero, Act.put, List.setIfInBounds_toArray, List.set_cons_zero, List.set_cons_succ]
      refine wpAnyH_ready (rs := [3]) (by kernel_rfl) (by simp) (AllReadyH.cons rfl (fun K hK => ?_) AllReadyH.nil)
      refine step_al (some 13) (by rfl) (by rfl) (by rfl) ?_
      refine hK.out _ _ (SC.out _ T.b2) (fun hHeld => ?_)
      clear hK K
      simp only [List.getElem_toArray, List.getElem_cons_succ, List.getElem_cons_zero, Act.put, List.setIfInBounds_toArray, List.set_cons_zero, List.set_cons_succ]
      refine wpAnyH_ready (rs := [4]) (by kernel_rfl) (by simp) (AllReadyH.cons rfl (fun K hK => ?_) AllReadyH.nil)
      refine step_st m none (by rfl) (by rfl) (.tmp 12) (.tmp 56) (by rfl) (by rfl) (by rfl) T.ha ?_
      refine hK.out _ _ (SC.out _ T.ca) (fun hHeld => ?_)
      clear hK K
      simp only [List.getElem_toArray, List.getElem_cons_succ, List.getElem_cons_zero, Act.put, List.setIfInBounds_toArray, List.set_cons_zero, List.set_cons_succ]
      refine wpAnyH_ready (rs := [5]) (by kernel_rfl) (by simp) (AllReadyH.cons rfl (fun K hK => ?_) AllReadyH.nil)
      refine step_st m none (by rfl) (by rfl) (.tmp 13) (.tmp 57) (by rfl) (by rfl) (by rfl) T.ka ?_
      refine hK.out _ _ (SC.out _ T.da) (fun hHeld => ?_)
      clear hK K
      simp only [List.getElem_toArray, List.getElem_cons_succ, List.getElem_cons_zero, Act.put, List.setIfInBounds_toArray, List.set_cons_zero, List.set_cons_succ]
      refine wpAnyH_done (by kernel_rfl) ?_ _
      refine NoPanic.normal ?_
      go_wp2_with fail
      go_meet
      exact ⟨_, _, rfl, rfl, T.ea⟩
    · skip
      refine step_al (some 13) (by rfl) (by rfl) (by rfl) ?_
      refine hK.out _ _ (SC.out _ T.b1) (fun hHeld => ?_)
      clear hK K
      simp only [List.getElem_toArray, List.getElem_cons_succ, List.getElem_cons_zero, Act.put, List.setIfInBounds_toArray, List.set_cons_zero, List.set_cons_succ]
      refine wpAnyH_ready (rs := [2]) (by kernel_rfl) (by simp) (AllReadyH.cons rfl (fun K hK => ?_) AllReadyH.nil)
      refine step_al (some 12) (by rfl) (by rfl) (by rfl) ?_
      refine hK.out _ _ (SC.out _ T.b2) (fun hHeld => ?_)
      clear hK K
      simp only [List.getElem_toArray, List.getElem_cons_succ, List.getElem_cons_zero, Act.put, List.setIfInBounds_toArray, List.set_cons_zero, List.set_cons_succ]
      refine wpAnyH_ready (rs := [4]) (by kernel_rfl) (by simp) (AllReadyH.cons rfl (fun K hK => ?_) AllReadyH.nil)
      refine step_st m none (by rfl) (by rfl) (.tmp 12) (.tmp 56) (by rfl) (by rfl) (by rfl) T.hb ?_
      refine hK.out _ _ (SC.out _ T.cb) (fun hHeld => ?_)
      clear hK K
      simp only [List.getElem_toArray, List.getElem_cons_succ, List.getElem_cons_zero, Act.put, List.setIfInBounds_toArray, List.set_cons_zero, List.set_cons_succ]
      refine wpAnyH_ready (rs := [5]) (by kernel_rfl) (by simp) (AllReadyH.cons rfl (fun K hK => ?_) AllReadyH.nil)
      refine step_st m none (by rfl) (by rfl) (.tmp 13) (.tmp 57) (by rfl) (by rfl) (by rfl) T.kb ?_
      refine hK.out _ _ (SC.out _ T.db) (fun hHeld => ?_)
      clear hK K
      simp only [List.getElem_toArray, List.getElem_cons_succ, List.getElem_cons_zero, Act.put, List.setIfInBounds_toArray, List.set_cons_zero, List.set_cons_succ]
      refine wpAnyH_done (by kernel_rfl) ?_ _
      refine NoPanic.normal ?_
      go_wp2_with fail
      go_meet
      exact ⟨_, _, rfl, rfl, T.eb⟩
  -- behind it
  case rest =>
    obtain ⟨gw, gn, rfl, rfl, tw⟩ := hcut
    have KP := Lib.hid (show Kp w _ p gw gn d m 0 from ⟨S4.out.laterE tw.below (fun x hx => by
      rcases hx with rfl | rfl
      · exact .inr ⟨tw.ha, (Array.getElem?_eq_some_iff.1 tw.fa).1⟩
      · exact .inr ⟨tw.hb, (Array.getElem?_eq_some_iff.1 tw.fb).1⟩), tw.fa, tw.fb, tw.ne, HH.out, by have := CN.out; omega, FU.out⟩)
    clear tw S4 HH CN FU SC T
    clear HK hl hu hf hk x1 x2
    go_upto_block 0 with fail
    go_cut [14] (fun _ wx => KEnd w wx p gw gn kp)
    case first =>
      clear KW
      go_wp2_with fail
      go_loopw [14] (fun i wr => ∃ (j : Nat) (d : D) (n : Ms), j ≤ l.length ∧ i = .int .i64 (j : Int) ∧ Kp w wr p gw gn d n j) (fun i _ => l.length - (intOf i).toNat)
      case atStart => exact ⟨0, d, m, by omega, rfl, KP.out⟩
      case round =>
        obtain ⟨j, d, n, hj, rfl, hk⟩ := hrel
        clear KP
        have K := Lib.hid hk
        clear hk
        by_cases hlt : j < l.length
        · obtain ⟨b, o, hb1, hb2, hb3⟩ := HC.out.at (List.getElem?_eq_getElem hlt)
          subst hb1
          have wfx := Lib.hid (HW.out _ (List.getElem_mem hlt))
          have cl : ∀ t u, (msS.cells l[j])[t]? = some u → wr.cell? ⟨b, o + j * 5 + t, none⟩ = some u := fun t u h => by
            rw [Nat.add_assoc]
            exact (K.out.own.below.cell (p := ⟨b, o + (j * 5 + t), none⟩) hb2).trans (hb3 t u h)
          have c0 := cl 0 _ rfl
          have c1 := cl 1 _ rfl
          have c2 := cl 2 _ rfl
          have c3 := cl 3 _ rfl
          have c4 := cl 4 _ rfl
          rw [Nat.add_zero] at c0
          obtain ⟨n0, _, _, _, _⟩ := K.out.fb.five
          clear hb2 hb3 cl
          generalize l[j] = x at *
          have hlt2 : decide ((j : Int) < (l.length : Int)) = true := decide_eq_true (by omega)
          go_upto_region 14 with fail
          have R0 := Lib.hid (Rd.start K.out x)
          have R1 := Lib.hid (R0.out.set 0 (.int .u64 ((n.count : Int) + 1)) (x' := ⟨n.count + 1, x.life, x.check, x.first, x.clean⟩) rfl)
          have R2 := Lib.hid (R1.out.set 1 (.int .u64 ((x.life ||| 1 : Nat) : Int)) (x' := ⟨n.count + 1, x.life ||| 1, x.check, x.first, x.clean⟩) rfl)
          have R3 := Lib.hid (R2.out.set 3 (.int .u64 ((x.first ||| 1 : Nat) : Int)) (x' := ⟨n.count + 1, x.life ||| 1, x.check, x.first ||| 1, x.clean⟩) rfl)
          have R4 := Lib.hid (R3.out.set 2 (.int .u64 ((x.first ||| 1 : Nat) : Int)) (x' := ⟨n.count + 1, x.life ||| 1, x.first ||| 1, x.first ||| 1, x.clean⟩) rfl)
          obtain ⟨m0, m1, m2, m3, m4⟩ := R0.out.fm.five
          have f0 : (wr.alloc (.cells (msC x) 40)).frozen? ⟨wr.heap.size, 0, none⟩ = false := frozen_of_row _ _ _ _ _ R0.out.fm
          have f1 : (wr.alloc (.cells (msC x) 40)).frozen? ⟨wr.heap.size, 1, none⟩ = false := frozen_of_row _ _ _ _ _ R0.out.fm
          have f2 : (wr.alloc (.cells (msC x) 40)).frozen? ⟨wr.heap.size, 2, none⟩ = false := frozen_of_row _ _ _ _ _ R0.out.fm
          have f3 : (wr.alloc (.cells (msC x) 40)).frozen? ⟨wr.heap.size, 3, none⟩ = false := frozen_of_row _ _ _ _ _ R0.out.fm
          have n0' := R0.out.fb.five.1
          have ne := R0.out.nb
          unfold msC at R1 R2 R3 R4 m0 m1 m2 m3 m4 f0 f1 f2 f3 n0'
          clear R0 n0 c0 c1 c2 c3 c4
          generalize wr.heap.size = gm at *
          generalize World.alloc wr _ = Wm at *
          have hcn := K.out.cnt
          have t1 : IntKind.u64.wrap ((n.count : Int) + 1) = (n.count : Int) + 1 := by have := HL.out; rw [IntKind.wrap_u64]; omega
          have t2 : bits .or .u64 (x.life : Int) 1 = ((x.life ||| 1 : Nat) : Int) := u64_or_nat x.life 1 wfx.out.life (by decide)
          have t3 : bits .or .u64 (x.first : Int) 1 = ((x.first ||| 1 : Nat) : Int) := u64_or_nat x.first 1 wfx.out.first (by decide)
          clear hcn
          by_cases hck : x.check ≠ 0 ∧ x.check < x.first ||| 1
          · have y1 : ((x.check : Int) != 0) = true := by simp; omega
            have y2 : decide (x.check < x.first ||| 1) = true := decide_eq_true hck.2
            have RX := Lib.hid (show Rd w _ p gw gn gm d n (adj x n) from by
              have e : adj x n = ⟨n.count + 1, x.life ||| 1, x.first ||| 1, x.first ||| 1, x.clean⟩ := by unfold adj; rw [if_pos hck]
              rw [e]; exact R4.out)
            clear R1 R2 R3 R4 hck
            go_upto_region 19 with fail
            have HY := Lib.hid (show (adj x n).wf from adj_wf wfx.out (by have := K.out.cnt; have := HL.out; omega))
            have OY := Lib.hid (adj_ok x n)
            have CY := Lib.hid (adj_count x n)
            clear t1 t2 t3 m0 m1 m2 m3 m4 f0 f1 f2 f3 n0' ne
            generalize adj x n = y at *
            generalize World.setCell _ _ _ = W5 at *
            obtain ⟨m0, m1, m2, m3, m4⟩ := RX.out.fm.five
            have HO := Lib.hid K.out.hold
            have ST := Lib.hid (show Calls Try.prog 24 #[.pointer (some ⟨p, 0, none⟩), .int .i64 0, msV y] W5 fun e w' => e = .returned (.int .i64 (storeE d)) ∧ (Own w w' (fun z => z = gw ∨ z = gn ∨ z = gm) [(p, storeD d (y.count % 2) (encL y))] ∧ ∀ b, (b = gw ∨ b = gn ∨ b = gm) → w'.heap[b]? = W5.heap[b]?) from by
              have := own_store RX.out.own y 0 HY.out OY.out (by rw [HO.out.len]; omega) (by rw [HO.out.loose]; exact Nat.zero_le _) ⟨rfl, rfl⟩
              rw [Nat.zero_add] at this
              exact this)
            unfold msV at ST
            generalize hC : msC y = C at *
            unfold msC at hC
            subst hC
            go_wp2_with fail
            refine ST.out.mono ?_
            rintro e W6 ⟨rfl, s6, k6⟩
            have RY := Lib.hid (show Rd w W6 p gw gn gm (storeD d (y.count % 2) (encL y)) n y from ⟨s6, (k6 gw (.inl rfl)).trans RX.out.fa, (k6 gn (.inr (.inl rfl))).trans RX.out.fb, (k6 gm (.inr (.inr rfl))).trans RX.out.fm, RX.out.ne, RX.out.na, RX.out.nb⟩)
            have FUS := Lib.hid (fuse_store (d := d) (y.count % 2) (encL y) K.out.fu.1 K.out.fu.2)
            have CNT := Lib.hid (show y.count ≤ 65536 + (j + 1) from by have := K.out.cnt; have := CY.out; omega)
            have LOC := Lib.hid (loose_cut HO.out (y.count % 2) (encL y))
            clear s6 k6 ST RX m0 m1 m2 m3 m4
            have QA := Lib.hid (show (d.fuse = 0 ∨ burnt d.fuse = 0) → storeE d = 40 ∧ (Holds ((storeD d (y.count % 2) (encL y)).crash [kp, kp]) n ∨ Holds ((storeD d (y.count % 2) (encL y)).crash [kp, kp]) y) from fun h => store_cut HO.out h HY.out OY.out CY.out kp)
            have QB := Lib.hid (show ¬ (d.fuse = 0 ∨ burnt d.fuse = 0) → storeE d = 0 ∧ Holds (storeD d (y.count % 2) (encL y)) y from fun h => (store_done HO.out (fun e => h (.inl e)) (fun e => h (.inr e)) HY.out OY.out CY.out).2)
            clear K HO HY OY CY
            generalize storeD d (y.count % 2) (encL y) = d' at *
            generalize storeE d = se at *
            obtain ⟨m0, m1, m2, m3, m4⟩ := RY.out.fm.five
            obtain ⟨n0, n1, n2, n3, n4⟩ := RY.out.fb.five
            by_cases hcut : d.fuse = 0 ∨ burnt d.fuse = 0
            · obtain ⟨rfl, hh⟩ := QA.out hcut
              have HH2 := Lib.hid hh
              have HB1 := Lib.hid RY.out.fa
              have HB2 := Lib.hid (show (W6.setRow gw (msC n)).heap[gn]? = some (.cells (msC n) 40 (0, 0)) from RY.out.fb.rowaside RY.out.ne.symm _)
              have EN := Lib.hid (RY.out.rows n y)
              obtain ⟨g0, g1', g2, g3, g4⟩ := At.five (RY.out.fm.rowaside RY.out.na.symm (msC n))
              clear hh hcut QA QB RY
              go_wp2_with (first | (refine wpList_store_row rfl 40 (.tmp 12) (.tmp 98) rfl gw (msC n) rfl rfl 40 (msC n) HB1.out info_ms rfl (ms_one _) ?_) | (refine wpList_store_row rfl 40 (.tmp 13) (.tmp 99) rfl gn (msC y) rfl rfl 40 (msC n) HB2.out info_ms rfl (ms_one _) ?_))
              go_meet
              exact ⟨d', n, y, EN.out.1, EN.out.2.1, EN.out.2.2.1, LOC.out, HH2.out⟩
            · obtain ⟨rfl, hh⟩ := QB.out hcut
              have HH2 := Lib.hid hh
              have HB1 := Lib.hid RY.out.fa
              have HB2 := Lib.hid (show (W6.setRow gw (msC y)).heap[gn]? = some (.cells (msC n) 40 (0, 0)) from RY.out.fb.rowaside RY.out.ne.symm _)
              have EN := Lib.hid (RY.out.rows y y)
              have NE := Lib.hid RY.out.ne
              obtain ⟨g0, g1', g2, g3, g4⟩ := At.five (RY.out.fm.rowaside RY.out.na.symm (msC y))
              clear hh hcut QA QB RY
              go_wp2_with (first | (refine wpList_store_row rfl 40 (.tmp 12) (.tmp 100) rfl gw (msC y) rfl rfl 40 (msC n) HB1.out info_ms rfl (ms_one _) ?_) | (refine wpList_store_row rfl 40 (.tmp 13) (.tmp 101) rfl gn (msC y) rfl rfl 40 (msC n) HB2.out info_ms rfl (ms_one _) ?_))
              have LD : Hid (∃ (z : Ms) (ez : Int), (ez = 0 → z = y) ∧ (ez = 0 ∨ (ez == 0) = false) ∧ Calls Try.prog 22 #[.pointer (some ⟨p, 0, none⟩), .int .i64 0] ((W6.setRow gw (msC y)).setRow gn (msC y)) fun e w' => e = .returned (.tuple #[msV z, .int .i64 ez]) ∧ Below ((W6.setRow gw (msC y)).setRow gn (msC y)).heap.size ((W6.setRow gw (msC y)).setRow gn (msC y)) w') := by
                refine Lib.hid ?_
                by_cases h0 : d'.fuse = 0
                · exact ⟨Ms.zero, 40, (fun h => by cases h), .inr rfl, own_load_down EN.out.1 h0 0 (by omega)⟩
                · exact ⟨y, 0, fun _ => rfl, .inl rfl, own_load EN.out.1 h0 0 (by rw [HH2.out.len]; omega) HH2.out.loads⟩
              clear HB1 HB2 g0 g1' g2 g3 g4
              have AY := Lib.hid EN.out.2.2.2
              generalize (W6.setRow gw (msC y)).setRow gn (msC y) = W7 at *
              obtain ⟨z, ez, lz1, lz2, ld⟩ := LD.out
              have LZ1 := Lib.hid lz1
              have LZ2 := Lib.hid lz2
              have LDD := Lib.hid ld
              clear LD lz1 lz2 ld
              unfold msV at LDD
              generalize hC : msC z = C at *
              unfold msC at hC
              subst hC
              go_wp2_with fail
              refine LDD.out.mono ?_
              rintro e W8 ⟨rfl, b8⟩
              have AY9 := Lib.hid ((AY.out.later b8).later (below_new W8 (.cells (msC z) 40)))
              have AZ9 := Lib.hid (At.new W8 z)
              have KQ := Lib.hid (show Kp w (W8.alloc (.cells (msC z) 40)) p gw gn d' y (j + 1) from ⟨(EN.out.1.later b8).later (below_new W8 _), (EN.out.2.1.later b8).later (below_new W8 _), (EN.out.2.2.1.later b8).later (below_new W8 _), NE.out, HH2.out, CNT.out, FUS.out⟩)
              unfold msC at AY9 AZ9 KQ
              clear b8 LDD AY EN NE HH2 CNT FUS LOC
              go_upto_region 26 with fail
              generalize W8.heap.size = gz at *
              generalize World.alloc W8 _ = W9 at *
              obtain ⟨q0, q1, q2, q3, q4⟩ := AY9.out.five
              obtain ⟨r0, r1, r2, r3, r4⟩ := AZ9.out.five
              have hle : l.length ≤ 20 := by have := HL.out; omega
              rcases LZ2.out with hz | hz
              · have hzy := LZ1.out hz
                subst hz
                subst hzy
                clear LZ1 LZ2
                go_wp2_with fail
                go_roundw
                case rel => exact ⟨j + 1, d', _, by omega, by go_num, KQ.out⟩
                case measure => simp [intOf]; omega
              · clear LZ1 LZ2
                go_wp2_with fail
                go_roundw
                case rel => exact ⟨j + 1, d', _, by omega, by go_num, KQ.out⟩
                case measure => simp [intOf]; omega
          · have RX := Lib.hid (show Rd w _ p gw gn gm d n (adj x n) from by
              have e : adj x n = ⟨n.count + 1, x.life ||| 1, x.check, x.first ||| 1, x.clean⟩ := by unfold adj; rw [if_neg hck]
              rw [e]; exact R3.out)
            clear R1 R2 R3 R4
            by_cases h0 : x.check = 0
            · have y1 : ((x.check : Int) != 0) = false := by simp; omega
              clear hck h0
              go_upto_region 19 with fail
              have HY := Lib.hid (show (adj x n).wf from adj_wf wfx.out (by have := K.out.cnt; have := HL.out; omega))
              have OY := Lib.hid (adj_ok x n)
              have CY := Lib.hid (adj_count x n)
              clear t1 t2 t3 m0 m1 m2 m3 m4 f0 f1 f2 f3 n0' ne
              generalize adj x n = y at *
              generalize World.setCell _ _ _ = W5 at *
              obtain ⟨m0, m1, m2, m3, m4⟩ := RX.out.fm.five
              have HO := Lib.hid K.out.hold
              have ST := Lib.hid (show Calls Try.prog 24 #[.pointer (some ⟨p, 0, none⟩), .int .i64 0, msV y] W5 fun e w' => e = .returned (.int .i64 (storeE d)) ∧ (Own w w' (fun z => z = gw ∨ z = gn ∨ z = gm) [(p, storeD d (y.count % 2) (encL y))] ∧ ∀ b, (b = gw ∨ b = gn ∨ b = gm) → w'.heap[b]? = W5.heap[b]?) from by
                have := own_store RX.out.own y 0 HY.out OY.out (by rw [HO.out.len]; omega) (by rw [HO.out.loose]; exact Nat.zero_le _) ⟨rfl, rfl⟩
                rw [Nat.zero_add] at this
                exact this)
              unfold msV at ST
              generalize hC : msC y = C at *
              unfold msC at hC
              subst hC
              go_wp2_with fail
              refine ST.out.mono ?_
              rintro e W6 ⟨rfl, s6, k6⟩
              have RY := Lib.hid (show Rd w W6 p gw gn gm (storeD d (y.count % 2) (encL y)) n y from ⟨s6, (k6 gw (.inl rfl)).trans RX.out.fa, (k6 gn (.inr (.inl rfl))).trans RX.out.fb, (k6 gm (.inr (.inr rfl))).trans RX.out.fm, RX.out.ne, RX.out.na, RX.out.nb⟩)
              have FUS := Lib.hid (fuse_store (d := d) (y.count % 2) (encL y) K.out.fu.1 K.out.fu.2)
              have CNT := Lib.hid (show y.count ≤ 65536 + (j + 1) from by have := K.out.cnt; have := CY.out; omega)
              have LOC := Lib.hid (loose_cut HO.out (y.count % 2) (encL y))
              clear s6 k6 ST RX m0 m1 m2 m3 m4
              have QA := Lib.hid (show (d.fuse = 0 ∨ burnt d.fuse = 0) → storeE d = 40 ∧ (Holds ((storeD d (y.count % 2) (encL y)).crash [kp, kp]) n ∨ Holds ((storeD d (y.count % 2) (encL y)).crash [kp, kp]) y) from fun h => store_cut HO.out h HY.out OY.out CY.out kp)
              have QB := Lib.hid (show ¬ (d.fuse = 0 ∨ burnt d.fuse = 0) → storeE d = 0 ∧ Holds (storeD d (y.count % 2) (encL y)) y from fun h => (store_done HO.out (fun e => h (.inl e)) (fun e => h (.inr e)) HY.out OY.out CY.out).2)
              clear K HO HY OY CY
              generalize storeD d (y.count % 2) (encL y) = d' at *
              generalize storeE d = se at *
              obtain ⟨m0, m1, m2, m3, m4⟩ := RY.out.fm.five
              obtain ⟨n0, n1, n2, n3, n4⟩ := RY.out.fb.five
              by_cases hcut : d.fuse = 0 ∨ burnt d.fuse = 0
              · obtain ⟨rfl, hh⟩ := QA.out hcut
                have HH2 := Lib.hid hh
                have HB1 := Lib.hid RY.out.fa
                have HB2 := Lib.hid (show (W6.setRow gw (msC n)).heap[gn]? = some (.cells (msC n) 40 (0, 0)) from RY.out.fb.rowaside RY.out.ne.symm _)
                have EN := Lib.hid (RY.out.rows n y)
                obtain ⟨g0, g1', g2, g3, g4⟩ := At.five (RY.out.fm.rowaside RY.out.na.symm (msC n))
                clear hh hcut QA QB RY
                go_wp2_with (first | (refine wpList_store_row rfl 40 (.tmp 12) (.tmp 98) rfl gw (msC n) rfl rfl 40 (msC n) HB1.out info_ms rfl (ms_one _) ?_) | (refine wpList_store_row rfl 40 (.tmp 13) (.tmp 99) rfl gn (msC y) rfl rfl 40 (msC n) HB2.out info_ms rfl (ms_one _) ?_))
                go_meet
                exact ⟨d', n, y, EN.out.1, EN.out.2.1, EN.out.2.2.1, LOC.out, HH2.out⟩
              · obtain ⟨rfl, hh⟩ := QB.out hcut
                have HH2 := Lib.hid hh
                have HB1 := Lib.hid RY.out.fa
                have HB2 := Lib.hid (show (W6.setRow gw (msC y)).heap[gn]? = some (.cells (msC n) 40 (0, 0)) from RY.out.fb.rowaside RY.out.ne.symm _)
                have EN := Lib.hid (RY.out.rows y y)
                have NE := Lib.hid RY.out.ne
                obtain ⟨g0, g1', g2, g3, g4⟩ := At.five (RY.out.fm.rowaside RY.out.na.symm (msC y))
                clear hh hcut QA QB RY
                go_wp2_with (first | (refine wpList_store_row rfl 40 (.tmp 12) (.tmp 100) rfl gw (msC y) rfl rfl 40 (msC n) HB1.out info_ms rfl (ms_one _) ?_) | (refine wpList_store_row rfl 40 (.tmp 13) (.tmp 101) rfl gn (msC y) rfl rfl 40 (msC n) HB2.out info_ms rfl (ms_one _) ?_))
                have LD : Hid (∃ (z : Ms) (ez : Int), (ez = 0 → z = y) ∧ (ez = 0 ∨ (ez == 0) = false) ∧ Calls Try.prog 22 #[.pointer (some ⟨p, 0, none⟩), .int .i64 0] ((W6.setRow gw (msC y)).setRow gn (msC y)) fun e w' => e = .returned (.tuple #[msV z, .int .i64 ez]) ∧ Below ((W6.setRow gw (msC y)).setRow gn (msC y)).heap.size ((W6.setRow gw (msC y)).setRow gn (msC y)) w') := by
                  refine Lib.hid ?_
                  by_cases h0 : d'.fuse = 0
                  · exact ⟨Ms.zero, 40, (fun h => by cases h), .inr rfl, own_load_down EN.out.1 h0 0 (by omega)⟩
                  · exact ⟨y, 0, fun _ => rfl, .inl rfl, own_load EN.out.1 h0 0 (by rw [HH2.out.len]; omega) HH2.out.loads⟩
                clear HB1 HB2 g0 g1' g2 g3 g4
                have AY := Lib.hid EN.out.2.2.2
                generalize (W6.setRow gw (msC y)).setRow gn (msC y) = W7 at *
                obtain ⟨z, ez, lz1, lz2, ld⟩ := LD.out
                have LZ1 := Lib.hid lz1
                have LZ2 := Lib.hid lz2
                have LDD := Lib.hid ld
                clear LD lz1 lz2 ld
                unfold msV at LDD
                generalize hC : msC z = C at *
                unfold msC at hC
                subst hC
                go_wp2_with fail
                refine LDD.out.mono ?_
                rintro e W8 ⟨rfl, b8⟩
                have AY9 := Lib.hid ((AY.out.later b8).later (below_new W8 (.cells (msC z) 40)))
                have AZ9 := Lib.hid (At.new W8 z)
                have KQ := Lib.hid (show Kp w (W8.alloc (.cells (msC z) 40)) p gw gn d' y (j + 1) from ⟨(EN.out.1.later b8).later (below_new W8 _), (EN.out.2.1.later b8).later (below_new W8 _), (EN.out.2.2.1.later b8).later (below_new W8 _), NE.out, HH2.out, CNT.out, FUS.out⟩)
                unfold msC at AY9 AZ9 KQ
                clear b8 LDD AY EN NE HH2 CNT FUS LOC
                go_upto_region 26 with fail
                generalize W8.heap.size = gz at *
                generalize World.alloc W8 _ = W9 at *
                obtain ⟨q0, q1, q2, q3, q4⟩ := AY9.out.five
                obtain ⟨r0, r1, r2, r3, r4⟩ := AZ9.out.five
                have hle : l.length ≤ 20 := by have := HL.out; omega
                rcases LZ2.out with hz | hz
                · have hzy := LZ1.out hz
                  subst hz
                  subst hzy
                  clear LZ1 LZ2
                  go_wp2_with fail
                  go_roundw
                  case rel => exact ⟨j + 1, d', _, by omega, by go_num, KQ.out⟩
                  case measure => simp [intOf]; omega
                · clear LZ1 LZ2
                  go_wp2_with fail
                  go_roundw
                  case rel => exact ⟨j + 1, d', _, by omega, by go_num, KQ.out⟩
                  case measure => simp [intOf]; omega
            · have y1 : ((x.check : Int) != 0) = true := by simp; omega
              have y2 : decide (x.check < x.first ||| 1) = false := decide_eq_false (fun h => hck ⟨h0, h⟩)
              clear hck h0
              go_upto_region 19 with fail
              have HY := Lib.hid (show (adj x n).wf from adj_wf wfx.out (by have := K.out.cnt; have := HL.out; omega))
              have OY := Lib.hid (adj_ok x n)
              have CY := Lib.hid (adj_count x n)
              clear t1 t2 t3 m0 m1 m2 m3 m4 f0 f1 f2 f3 n0' ne
              generalize adj x n = y at *
              generalize World.setCell _ _ _ = W5 at *
              obtain ⟨m0, m1, m2, m3, m4⟩ := RX.out.fm.five
              have HO := Lib.hid K.out.hold
              have ST := Lib.hid (show Calls Try.prog 24 #[.pointer (some ⟨p, 0, none⟩), .int .i64 0, msV y] W5 fun e w' => e = .returned (.int .i64 (storeE d)) ∧ (Own w w' (fun z => z = gw ∨ z = gn ∨ z = gm) [(p, storeD d (y.count % 2) (encL y))] ∧ ∀ b, (b = gw ∨ b = gn ∨ b = gm) → w'.heap[b]? = W5.heap[b]?) from by
                have := own_store RX.out.own y 0 HY.out OY.out (by rw [HO.out.len]; omega) (by rw [HO.out.loose]; exact Nat.zero_le _) ⟨rfl, rfl⟩
                rw [Nat.zero_add] at this
                exact this)
              unfold msV at ST
              generalize hC : msC y = C at *
              unfold msC at hC
              subst hC
              go_wp2_with fail
              refine ST.out.mono ?_
              rintro e W6 ⟨rfl, s6, k6⟩
              have RY := Lib.hid (show Rd w W6 p gw gn gm (storeD d (y.count % 2) (encL y)) n y from ⟨s6, (k6 gw (.inl rfl)).trans RX.out.fa, (k6 gn (.inr (.inl rfl))).trans RX.out.fb, (k6 gm (.inr (.inr rfl))).trans RX.out.fm, RX.out.ne, RX.out.na, RX.out.nb⟩)
              have FUS := Lib.hid (fuse_store (d := d) (y.count % 2) (encL y) K.out.fu.1 K.out.fu.2)
              have CNT := Lib.hid (show y.count ≤ 65536 + (j + 1) from by have := K.out.cnt; have := CY.out; omega)
              have LOC := Lib.hid (loose_cut HO.out (y.count % 2) (encL y))
              clear s6 k6 ST RX m0 m1 m2 m3 m4
              have QA := Lib.hid (show (d.fuse = 0 ∨ burnt d.fuse = 0) → storeE d = 40 ∧ (Holds ((storeD d (y.count % 2) (encL y)).crash [kp, kp]) n ∨ Holds ((storeD d (y.count % 2) (encL y)).crash [kp, kp]) y) from fun h => store_cut HO.out h HY.out OY.out CY.out kp)
              have QB := Lib.hid (show ¬ (d.fuse = 0 ∨ burnt d.fuse = 0) → storeE d = 0 ∧ Holds (storeD d (y.count % 2) (encL y)) y from fun h => (store_done HO.out (fun e => h (.inl e)) (fun e => h (.inr e)) HY.out OY.out CY.out).2)
              clear K HO HY OY CY
              generalize storeD d (y.count % 2) (encL y) = d' at *
              generalize storeE d = se at *
              obtain ⟨m0, m1, m2, m3, m4⟩ := RY.out.fm.five
              obtain ⟨n0, n1, n2, n3, n4⟩ := RY.out.fb.five
              by_cases hcut : d.fuse = 0 ∨ burnt d.fuse = 0
              · obtain ⟨rfl, hh⟩ := QA.out hcut
                have HH2 := Lib.hid hh
                have HB1 := Lib.hid RY.out.fa
                have HB2 := Lib.hid (show (W6.setRow gw (msC n)).heap[gn]? = some (.cells (msC n) 40 (0, 0)) from RY.out.fb.rowaside RY.out.ne.symm _)
                have EN := Lib.hid (RY.out.rows n y)
                obtain ⟨g0, g1', g2, g3, g4⟩ := At.five (RY.out.fm.rowaside RY.out.na.symm (msC n))
                clear hh hcut QA QB RY
                go_wp2_with (first | (refine wpList_store_row rfl 40 (.tmp 12) (.tmp 98) rfl gw (msC n) rfl rfl 40 (msC n) HB1.out info_ms rfl (ms_one _) ?_) | (refine wpList_store_row rfl 40 (.tmp 13) (.tmp 99) rfl gn (msC y) rfl rfl 40 (msC n) HB2.out info_ms rfl (ms_one _) ?_))
                go_meet
                exact ⟨d', n, y, EN.out.1, EN.out.2.1, EN.out.2.2.1, LOC.out, HH2.out⟩
              · obtain ⟨rfl, hh⟩ := QB.out hcut
                have HH2 := Lib.hid hh
                have HB1 := Lib.hid RY.out.fa
                have HB2 := Lib.hid (show (W6.setRow gw (msC y)).heap[gn]? = some (.cells (msC n) 40 (0, 0)) from RY.out.fb.rowaside RY.out.ne.symm _)
                have EN := Lib.hid (RY.out.rows y y)
                have NE := Lib.hid RY.out.ne
                obtain ⟨g0, g1', g2, g3, g4⟩ := At.five (RY.out.fm.rowaside RY.out.na.symm (msC y))
                clear hh hcut QA QB RY
                go_wp2_with (first | (refine wpList_store_row rfl 40 (.tmp 12) (.tmp 100) rfl gw (msC y) rfl rfl 40 (msC n) HB1.out info_ms rfl (ms_one _) ?_) | (refine wpList_store_row rfl 40 (.tmp 13) (.tmp 101) rfl gn (msC y) rfl rfl 40 (msC n) HB2.out info_ms rfl (ms_one _) ?_))
                have LD : Hid (∃ (z : Ms) (ez : Int), (ez = 0 → z = y) ∧ (ez = 0 ∨ (ez == 0) = false) ∧ Calls Try.prog 22 #[.pointer (some ⟨p, 0, none⟩), .int .i64 0] ((W6.setRow gw (msC y)).setRow gn (msC y)) fun e w' => e = .returned (.tuple #[msV z, .int .i64 ez]) ∧ Below ((W6.setRow gw (msC y)).setRow gn (msC y)).heap.size ((W6.setRow gw (msC y)).setRow gn (msC y)) w') := by
                  refine Lib.hid ?_
                  by_cases h0 : d'.fuse = 0
                  · exact ⟨Ms.zero, 40, (fun h => by cases h), .inr rfl, own_load_down EN.out.1 h0 0 (by omega)⟩
                  · exact ⟨y, 0, fun _ => rfl, .inl rfl, own_load EN.out.1 h0 0 (by rw [HH2.out.len]; omega) HH2.out.loads⟩
                clear HB1 HB2 g0 g1' g2 g3 g4
                have AY := Lib.hid EN.out.2.2.2
                generalize (W6.setRow gw (msC y)).setRow gn (msC y) = W7 at *
                obtain ⟨z, ez, lz1, lz2, ld⟩ := LD.out
                have LZ1 := Lib.hid lz1
                have LZ2 := Lib.hid lz2
                have LDD := Lib.hid ld
                clear LD lz1 lz2 ld
                unfold msV at LDD
                generalize hC : msC z = C at *
                unfold msC at hC
                subst hC
                go_wp2_with fail
                refine LDD.out.mono ?_
                rintro e W8 ⟨rfl, b8⟩
                have AY9 := Lib.hid ((AY.out.later b8).later (below_new W8 (.cells (msC z) 40)))
                have AZ9 := Lib.hid (At.new W8 z)
                have KQ := Lib.hid (show Kp w (W8.alloc (.cells (msC z) 40)) p gw gn d' y (j + 1) from ⟨(EN.out.1.later b8).later (below_new W8 _), (EN.out.2.1.later b8).later (below_new W8 _), (EN.out.2.2.1.later b8).later (below_new W8 _), NE.out, HH2.out, CNT.out, FUS.out⟩)
                unfold msC at AY9 AZ9 KQ
                clear b8 LDD AY EN NE HH2 CNT FUS LOC
                go_upto_region 26 with fail
                generalize W8.heap.size = gz at *
                generalize World.alloc W8 _ = W9 at *
                obtain ⟨q0, q1, q2, q3, q4⟩ := AY9.out.five
                obtain ⟨r0, r1, r2, r3, r4⟩ := AZ9.out.five
                have hle : l.length ≤ 20 := by have := HL.out; omega
                rcases LZ2.out with hz | hz
                · have hzy := LZ1.out hz
                  subst hz
                  subst hzy
                  clear LZ1 LZ2
                  go_wp2_with fail
                  go_roundw
                  case rel => exact ⟨j + 1, d', _, by omega, by go_num, KQ.out⟩
                  case measure => simp [intOf]; omega
                · clear LZ1 LZ2
                  go_wp2_with fail
                  go_roundw
                  case rel => exact ⟨j + 1, d', _, by omega, by go_num, KQ.out⟩
                  case measure => simp [intOf]; omega
        · have hlt2 : decide ((j : Int) < (l.length : Int)) = false := decide_eq_false (by omega)
          have hlt3 : decide (j < l.length) = false := decide_eq_false hlt
          clear hlt
          go_wp2_with fail
          go_meet
          exact K.out.end kp
    case rest =>
      obtain ⟨d', x, y, o7, a7, b7, l7, h7⟩ := hcut
      have O7 := Lib.hid o7
      have A7 := Lib.hid a7
      have B7 := Lib.hid b7
      have L7 := Lib.hid l7
      have H7 := Lib.hid h7
      clear o7 a7 b7 l7 h7 KP HC HW HL
      have lt1 := A7.out.lt
      have lt2 := B7.out.lt
      have OC := O7.out.laterE (E' := fun z => z = gw ∨ z = gn ∨ z = wc.heap.size) (below_new wc (.cells #[.bool kp, .bool kp] 4)) (fun z hz => by
        rcases hz with rfl | rfl | rfl
        · exact .inl (.inl rfl)
        · exact .inl (.inr rfl)
        · exact .inr (by simp))
      have CR := Lib.hid (own_crash OC (by have := L7.out; omega) (Disk.bools_two wc kp kp) (by show 2 ≤ 1000; omega) (fun b hb => by simp [Value.ownBlock] at hb; exact .inr (.inr hb.symm)))
      have AC := Lib.hid (A7.out.later (below_new wc (.cells #[.bool kp, .bool kp] 4)))
      have BC := Lib.hid (B7.out.later (below_new wc (.cells #[.bool kp, .bool kp] 4)))
      clear OC O7 A7 B7 L7 lt1 lt2
      go_wp2_with fail
      refine CR.out.mono ?_
      rintro e W9 ⟨rfl, o9, k9⟩
      have A9 := Lib.hid (show At W9 gw x from (k9 gw (.inl rfl)).trans AC.out)
      have B9 := Lib.hid (show At W9 gn y from (k9 gn (.inr (.inl rfl))).trans BC.out)
      have O9 := Lib.hid o9
      clear o9 k9 CR AC BC
      rcases H7.out with h7 | h7
      · skip
        have LD := Lib.hid (show Calls Try.prog 22 #[.pointer (some ⟨p, 0, none⟩), .int .i64 0] W9 _ from own_load O9.out (show (-1 : Int) ≠ 0 by decide) 0 (by rw [h7.len]; omega) h7.loads)
        clear h7 H7
        unfold msV at LD
        generalize hC : msC x = C at *
        unfold msC at hC
        subst hC
        go_wp2_with fail
        refine LD.out.mono ?_
        rintro e W10 ⟨rfl, b10⟩
        have A11 := Lib.hid ((A9.out.later b10).later (below_new W10 (.cells (msC x) 40)))
        have B11 := Lib.hid ((B9.out.later b10).later (below_new W10 (.cells (msC x) 40)))
        have Z11 := Lib.hid (At.new W10 x)
        have O11 := Lib.hid ((O9.out.later b10).later (below_new W10 (.cells (msC x) 40))).below
        unfold msC at A11 B11 Z11 O11
        clear b10 LD O9 A9 B9
        go_upto_region 31 with fail
        generalize W10.heap.size = gz at *
        generalize World.alloc W10 _ = W11 at *
        obtain ⟨q0, q1, q2, q3, q4⟩ := A11.out.five
        obtain ⟨r0, r1, r2, r3, r4⟩ := B11.out.five
        obtain ⟨s0, s1, s2, s3, s4⟩ := Z11.out.five
        go_wp2_with fail
        refine (KW.out _).mono ?_
        rintro e W12 ⟨rfl, b12⟩
        have B13 := Lib.hid (O11.out.trans (b12.mono O11.out.size))
        clear b12 O11
        go_wp2_with fail
        go_ret
        exact ⟨rfl, B13.out⟩
      · skip
        have LD := Lib.hid (show Calls Try.prog 22 #[.pointer (some ⟨p, 0, none⟩), .int .i64 0] W9 _ from own_load O9.out (show (-1 : Int) ≠ 0 by decide) 0 (by rw [h7.len]; omega) h7.loads)
        clear h7 H7
        unfold msV at LD
        generalize hC : msC y = C at *
        unfold msC at hC
        subst hC
        go_wp2_with fail
        refine LD.out.mono ?_
        rintro e W10 ⟨rfl, b10⟩
        have A11 := Lib.hid ((A9.out.later b10).later (below_new W10 (.cells (msC y) 40)))
        have B11 := Lib.hid ((B9.out.later b10).later (below_new W10 (.cells (msC y) 40)))
        have Z11 := Lib.hid (At.new W10 y)
        have O11 := Lib.hid ((O9.out.later b10).later (below_new W10 (.cells (msC y) 40))).below
        unfold msC at A11 B11 Z11 O11
        clear b10 LD O9 A9 B9
        go_upto_region 31 with fail
        generalize W10.heap.size = gz at *
        generalize World.alloc W10 _ = W11 at *
        obtain ⟨q0, q1, q2, q3, q4⟩ := A11.out.five
        obtain ⟨r0, r1, r2, r3, r4⟩ := B11.out.five
        obtain ⟨s0, s1, s2, s3, s4⟩ := Z11.out.five
        clear A11 B11 Z11
        rcases ms_cases' y x with h | h2
        · subst h
          go_wp2_with fail
          refine (KW.out _).mono ?_
          rintro e W12 ⟨rfl, b12⟩
          have B13 := Lib.hid (O11.out.trans (b12.mono O11.out.size))
          clear b12 O11
          go_wp2_with fail
          go_ret
          exact ⟨rfl, B13.out⟩
        · rcases h2 with h2 | ⟨g1', h2⟩ | ⟨g1', g2, h2⟩ | ⟨g1', g2, g3, h2⟩ | ⟨g1', g2, g3, g4, h2⟩
          · have kz : ((y.count : Int) = (x.count : Int)) = False := eq_false (by omega)
            clear h2
            go_wp2_with fail
            refine (KW.out _).mono ?_
            rintro e W12 ⟨rfl, b12⟩
            have B13 := Lib.hid (O11.out.trans (b12.mono O11.out.size))
            clear b12 O11
            go_wp2_with fail
            go_ret
            exact ⟨rfl, B13.out⟩
          · have k0 : (y.count : Int) = (x.count : Int) := by omega
            have kz : ((y.life : Int) = (x.life : Int)) = False := eq_false (by omega)
            clear h2 g1'
            go_wp2_with fail
            refine (KW.out _).mono ?_
            rintro e W12 ⟨rfl, b12⟩
            have B13 := Lib.hid (O11.out.trans (b12.mono O11.out.size))
            clear b12 O11
            go_wp2_with fail
            go_ret
            exact ⟨rfl, B13.out⟩
          · have k0 : (y.count : Int) = (x.count : Int) := by omega
            have k1 : (y.life : Int) = (x.life : Int) := by omega
            have kz : ((y.check : Int) = (x.check : Int)) = False := eq_false (by omega)
            clear h2 g1' g2
            go_wp2_with fail
            refine (KW.out _).mono ?_
            rintro e W12 ⟨rfl, b12⟩
            have B13 := Lib.hid (O11.out.trans (b12.mono O11.out.size))
            clear b12 O11
            go_wp2_with fail
            go_ret
            exact ⟨rfl, B13.out⟩
          · have k0 : (y.count : Int) = (x.count : Int) := by omega
            have k1 : (y.life : Int) = (x.life : Int) := by omega
            have k2 : (y.check : Int) = (x.check : Int) := by omega
            have kz : ((y.first : Int) = (x.first : Int)) = False := eq_false (by omega)
            clear h2 g1' g2 g3
            go_wp2_with fail
            refine (KW.out _).mono ?_
            rintro e W12 ⟨rfl, b12⟩
            have B13 := Lib.hid (O11.out.trans (b12.mono O11.out.size))
            clear b12 O11
            go_wp2_with fail
            go_ret
            exact ⟨rfl, B13.out⟩
          · have k0 : (y.count : Int) = (x.count : Int) := by omega
            have k1 : (y.life : Int) = (x.life : Int) := by omega
            have k2 : (y.check : Int) = (x.check : Int) := by omega
            have k3 : (y.first : Int) = (x.first : Int) := by omega
            have kz : (y.clean = x.clean) = False := eq_false h2
            clear h2 g1' g2 g3 g4
            go_wp2_with fail
            refine (KW.out _).mono ?_
            rintro e W12 ⟨rfl, b12⟩
            have B13 := Lib.hid (O11.out.trans (b12.mono O11.out.size))
            clear b12 O11
            go_wp2_with fail
            go_ret
            exact ⟨rfl, B13.out⟩

end Go.Proofs.Ytfcibccipkokoaa.Mas
