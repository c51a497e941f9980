/-
  Walks: where a record is.
  Walks: find, Read, Reserve.
  Walks: add, Append.
-/
import Derived.StillTailTactics
import Derived.Test.YtgohpompgiljiaaZ3
import Derived.Test.YtgohpompgiljiaaZ38
namespace Go.Proofs.Ytgohpompgiljiaa.Log
open Go.RowKit
open Go.Proofs.Ytgohpompgiljiaa.Sl (Sl Step)
open Go.Proofs.Ytgohpompgiljiaa.Seq (byteS recS recC)
attribute [local go_sem ↓] Go.wp_at_zero Go.wp_at_succ

def cmpN (a b : Nat) : Int := if a < b then -1 else if b < a then 1 else 0
theorem nan_any (a : Nat) (w : World) : Calls Try.prog 68 #[.int .u64 (a : Int)] w fun e w' => e = .returned (.bool false) ∧ w = w' := by
  have e : ((a : Int) != (a : Int)) = false := by simp
  go_enter Try.func68, Try.ntmps68
  go_wp2_with fail
  go_ret
  exact ⟨rfl, rfl⟩
set_option maxRecDepth 100000 in
set_option maxHeartbeats 1000000 in
theorem compare_any (a b : Nat) (w : World) : Calls Try.prog 60 #[.int .u64 (a : Int), .int .u64 (b : Int)] w fun e w' => e = .returned (.int .i64 (cmpN a b)) ∧ w = w' := by
  have KA := Lib.hid (fun W => nan_any a W)
  have KB := Lib.hid (fun W => nan_any b W)
  rcases Nat.lt_trichotomy a b with h | h | h
  · have X := Lib.hid (show cmpN a b = -1 from by unfold cmpN; rw [if_pos h])
    have e1 : decide ((a : Int) < (b : Int)) = true := decide_eq_true (by omega)
    have e2 : decide (a < b) = true := decide_eq_true h
    go_enter Try.func60, Try.ntmps60
    go_wp2_with (first | (go_at_call 68; with_reducible refine (KA.out _).mono ?_; rintro e w1 ⟨rfl, rfl⟩) | (go_at_call 68; with_reducible refine (KB.out _).mono ?_; rintro e w1 ⟨rfl, rfl⟩))
    go_ret
    exact ⟨by rw [X.out]; rfl, rfl⟩
  · subst h
    have X := Lib.hid (show cmpN a a = 0 from by unfold cmpN; rw [if_neg (by omega), if_neg (by omega)])
    have e1 : decide ((a : Int) < (a : Int)) = false := decide_eq_false (by omega)
    have e2 : decide (a < a) = false := decide_eq_false (by omega)
    clear KB
    go_enter Try.func60, Try.ntmps60
    go_wp2_with (first | (go_at_call 68; with_reducible refine (KA.out _).mono ?_; rintro e w1 ⟨rfl, rfl⟩))
    go_ret
    exact ⟨by rw [X.out]; rfl, rfl⟩
  · have X := Lib.hid (show cmpN a b = 1 from by unfold cmpN; rw [if_neg (by omega), if_pos h])
    have e1 : decide ((a : Int) < (b : Int)) = false := decide_eq_false (by omega)
    have e2 : decide (a < b) = false := decide_eq_false (by omega)
    have e3 : decide ((b : Int) < (a : Int)) = true := decide_eq_true (by omega)
    have e4 : decide (b < a) = true := decide_eq_true (by omega)
    go_enter Try.func60, Try.ntmps60
    go_wp2_with (first | (go_at_call 68; with_reducible refine (KA.out _).mono ?_; rintro e w1 ⟨rfl, rfl⟩) | (go_at_call 68; with_reducible refine (KB.out _).mono ?_; rintro e w1 ⟨rfl, rfl⟩))
    go_ret
    exact ⟨by rw [X.out]; rfl, rfl⟩

def recV (x : Nat × ByteArray) : Value := .agg #[.int .u64 (x.1 : Int), .string x.2]
set_option maxRecDepth 100000 in
theorem find1_any (x : Nat × ByteArray) (b : Nat) (w : World) : Calls Try.prog 59 #[recV x, .int .u64 (b : Int)] w fun e w' => e = .returned (.int .i64 (cmpN x.1 b)) ∧ Below w.heap.size w w' := by
  have K := Lib.hid (fun W => compare_any x.1 b W)
  have BN := Lib.hid (below_new w (.cells #[.int .u64 (x.1 : Int), .string x.2] 79))
  unfold recV
  generalize cmpN x.1 b = z at *
  go_enter Try.func59, Try.ntmps59
  go_wp2_with fail
  refine (K.out _).mono ?_
  rintro e w1 ⟨rfl, rfl⟩
  go_wp2_with fail
  go_ret
  exact ⟨rfl, BN.out⟩

/-- at the record sought? -/
def isAt (l : List (Nat × ByteArray)) (f b : Nat) : Bool := match l[f]? with
  | some x => decide (x.1 = b)
  | none => false
set_option maxRecDepth 100000 in
set_option maxHeartbeats 2000000 in
theorem bs_any {F : Nat → Prop} {w : World} {v : Value} {l : List (Nat × ByteArray)} (h : Sl recS F w v l) (b f : Nat) (hf : f ≤ l.length) (hlow : ∀ i x, l[i]? = some x → i < f → x.1 < b) (hup : ∀ i x, l[i]? = some x → f ≤ i → b ≤ x.1) (hl : l.length ≤ 1000000) :
    Calls Try.prog 58 #[v, .int .u64 (b : Int), .func (.func 59) #[] #[]] w fun e w' => e = .returned (.tuple #[.int .i64 (f : Int), .bool (isAt l f b)]) ∧ Below w.heap.size w w' := by
  obtain ⟨ad, c, rfl⟩ := h.shape
  have H := Lib.hid h
  have LOW := Lib.hid hlow
  have UP := Lib.hid hup
  have KF := Lib.hid (fun x W => find1_any x b W)
  obtain ⟨n, hn⟩ : ∃ n, n = l.length := ⟨_, rfl⟩
  have N := Lib.hid hn
  obtain ⟨hit, hh⟩ : ∃ hit, hit = isAt l f b := ⟨_, rfl⟩
  have HIT := Lib.hid hh
  rw [← hn] at hf hl ⊢
  rw [← hh]
  clear h hlow hup hn hh
  go_enter Try.func58, Try.ntmps58
  go_wp2_with fail
  go_loopw [9, 10] (fun x y wr => ∃ i j : Nat, i ≤ f ∧ f ≤ j ∧ j ≤ n ∧ x = .int .i64 (i : Int) ∧ y = .int .i64 (j : Int) ∧ Below w.heap.size w wr) (fun x y _ => (intOf y).toNat - (intOf x).toNat)
  case atStart => exact ⟨0, n, by omega, by omega, by omega, by go_num, by go_num, Below.refl _ _⟩
  case round =>
    obtain ⟨i, j, hi, hj, hjn, rfl, rfl, hb⟩ := hrel
    have HB := Lib.hid hb
    clear hb
    by_cases hlt : i < j
    · obtain ⟨m, hm⟩ : ∃ m : Nat, m = (i + j) / 2 := ⟨_, rfl⟩
      have hm1 : i ≤ m := by omega
      have hm2 : m < j := by omega
      have hmi : ((i : Int) + (j : Int)) / 2 = (m : Int) := by omega
      obtain ⟨x, hx⟩ : ∃ x, l[m]? = some x := ⟨_, List.getElem?_eq_getElem (by rw [← N.out]; omega)⟩
      have hrw : Sl recS F wr (.slice ad n c) l := by rw [N.out]; exact H.out.later HB.out
      obtain ⟨g, o, rfl, _, _, hc⟩ := hrw.at hx
      have c0 := hc 0 _ rfl
      have c1 := hc 1 _ rfl
      have e2 : m * recS.k = m * 2 := rfl
      rw [e2, Nat.add_zero] at c0
      rw [e2] at c1
      have LW := Lib.hid (LOW.out m x hx)
      have UPP := Lib.hid (UP.out m x hx)
      have KC := Lib.hid (fun W => KF.out x W)
      have hmn : m < n := by omega
      unfold recV at KC
      obtain ⟨xa, xs⟩ := x
      change wr.cell? ⟨g, o + m * 2, none⟩ = some (.int .u64 (xa : Int)) at c0
      change wr.cell? ⟨g, o + (m * 2 + 1), none⟩ = some (.string xs) at c1
      rw [← Nat.add_assoc] at c1
      change Hid (m < f → xa < b) at LW
      change Hid (f ≤ m → b ≤ xa) at UPP
      change Hid (∀ W, Calls Try.prog 59 #[.agg #[.int .u64 (xa : Int), .string xs], .int .u64 (b : Int)] W fun e w' => e = .returned (.int .i64 (cmpN xa b)) ∧ Below W.heap.size W w') at KC
      have CM := Lib.hid (show (cmpN xa b < 0 ↔ xa < b) from by unfold cmpN; split <;> (try split) <;> omega)
      generalize cmpN xa b = cm at *
      clear hrw hc hm hx e2 KF
      go_wp2_with fail
      refine (KC.out _).mono ?_
      rintro e w1 ⟨rfl, b1⟩
      have HB1 := Lib.hid (HB.out.trans (b1.mono HB.out.size))
      clear b1 c0 c1
      by_cases h0 : cm < 0
      · have g1 : m + 1 ≤ f := by
          have h1 := CM.out.1 h0
          by_cases e : m < f
          · omega
          · have := UPP.out (by omega); omega
        go_wp2_with fail
        go_roundw
        case rel => exact ⟨m + 1, j, by omega, by omega, by omega, by go_num, by go_num, HB1.out⟩
        case measure => simp [intOf]; omega
      · have g1 : f ≤ m := by
          by_cases e : m < f
          · exact absurd (CM.out.2 (LW.out e)) h0
          · omega
        go_wp2_with fail
        go_roundw
        case rel => exact ⟨i, m, by omega, by omega, by omega, by go_num, by go_num, HB1.out⟩
        case measure => simp [intOf]; omega
    · obtain rfl : i = j := by omega
      obtain rfl : i = f := by omega
      clear LOW UP
      by_cases hin : i < n
      · obtain ⟨x, hx⟩ : ∃ x, l[i]? = some x := ⟨_, List.getElem?_eq_getElem (by rw [← N.out]; omega)⟩
        have hrw : Sl recS F wr (.slice ad n c) l := by rw [N.out]; exact H.out.later HB.out
        obtain ⟨g, o, rfl, _, _, hc⟩ := hrw.at hx
        have c0 := hc 0 _ rfl
        have c1 := hc 1 _ rfl
        have e2 : i * recS.k = i * 2 := rfl
        rw [e2, Nat.add_zero] at c0
        rw [e2] at c1
        have KC := Lib.hid (fun W => KF.out x W)
        have HX := Lib.hid (show hit = decide (x.1 = b) from by rw [HIT.out]; unfold isAt; rw [hx])
        unfold recV at KC
        obtain ⟨xa, xs⟩ := x
        change wr.cell? ⟨g, o + i * 2, none⟩ = some (.int .u64 (xa : Int)) at c0
        change wr.cell? ⟨g, o + (i * 2 + 1), none⟩ = some (.string xs) at c1
        rw [← Nat.add_assoc] at c1
        change Hid (hit = decide (xa = b)) at HX
        change Hid (∀ W, Calls Try.prog 59 #[.agg #[.int .u64 (xa : Int), .string xs], .int .u64 (b : Int)] W fun e w' => e = .returned (.int .i64 (cmpN xa b)) ∧ Below W.heap.size W w') at KC
        have CM := Lib.hid (show (cmpN xa b == 0) = decide (xa = b) from by
          unfold cmpN
          by_cases h1 : xa < b
          · rw [if_pos h1, decide_eq_false (by omega)]; rfl
          · by_cases h2 : b < xa
            · rw [if_neg h1, if_pos h2, decide_eq_false (by omega)]; rfl
            · rw [if_neg h1, if_neg h2, decide_eq_true (by omega)]; rfl)
        generalize cmpN xa b = cm at *
        clear hrw hc hx e2 KF
        go_wp2_with fail
        refine (KC.out _).mono ?_
        rintro e w1 ⟨rfl, b1⟩
        have HB1 := Lib.hid (HB.out.trans (b1.mono HB.out.size))
        clear b1 c0 c1
        go_wp2_with fail
        go_ret2
        exact ⟨by rw [HX.out, ← CM.out]; rfl, HB1.out⟩
      · have HX := Lib.hid (show hit = false from by rw [HIT.out]; unfold isAt; rw [List.getElem?_eq_none (by rw [← N.out]; omega)])
        go_wp2_with fail
        go_ret2
        exact ⟨by rw [HX.out]; rfl, HB.out⟩

end Go.Proofs.Ytgohpompgiljiaa.Log

namespace Go.Proofs.Ytgohpompgiljiaa.Log
open Go.RowKit
open Go.Proofs.Ytgohpompgiljiaa.Sl (Sl Step)
open Go.Proofs.Ytgohpompgiljiaa.Seq (byteS recS recC)
attribute [local go_sem ↓] Go.wp_at_zero Go.wp_at_succ

theorem isAt_pos (g : G) (b : Nat) : isAt (pos g.first g.recs) (g.idx b) b = g.hit b := by
  unfold isAt G.hit hitB
  rw [pos_get]
  by_cases h : g.idx b < g.recs.length
  · rw [List.getElem?_eq_getElem h]
    show decide (g.first + sz (g.recs.take (g.idx b)) = b) = _
    unfold G.idx at h ⊢
    apply decide_eq_decide.2
    exact ⟨fun e => ⟨h, e⟩, fun e => e.2⟩
  · rw [List.getElem?_eq_none (by omega)]
    unfold G.idx at h
    exact (decide_eq_false (fun e => h e.1)).symm
section
variable {i q pd at' : Nat} {T : Nat → Nat} {w : World} {g : G}
set_option maxRecDepth 100000 in
theorem find_any (h : Lg i T w q pd at' g) (b : Nat) : Calls Try.prog 37 #[.pointer (some ⟨q, 0, none⟩), .int .u64 (b : Int)] w fun e w' => e = .returned (.tuple #[.int .i64 (g.idx b : Int), .bool (g.hit b)]) ∧ Below w.heap.size w w' := by
  obtain ⟨rv, tv, hL⟩ := h.ex
  have hr := hL.recs
  have K := Lib.hid (bs_any hr b (g.idx b) (by show _ ≤ (pos g.first g.recs).length; rw [pos_len]; exact idx_le _ _ _) (fun j x hx hj => by
      change (pos g.first g.recs)[j]? = some x at hx
      rw [pos_get] at hx
      obtain ⟨y, hy, rfl⟩ := Option.map_eq_some_iff.1 hx
      exact idx_low _ _ _ _ hj) (fun j x hx hj => by
      change (pos g.first g.recs)[j]? = some x at hx
      rw [pos_get] at hx
      obtain ⟨y, hy, rfl⟩ := Option.map_eq_some_iff.1 hx
      exact idx_up _ _ _ _ hj (List.getElem?_eq_some_iff.1 hy).1) (by show (pos g.first g.recs).length ≤ _; rw [pos_len]; have := h.ok.recs_len; omega))
  change Hid (Calls _ _ _ _ fun e w' => e = .returned (.tuple #[.int .i64 (g.idx b : Int), .bool (isAt (pos g.first g.recs) (g.idx b) b)]) ∧ Below w.heap.size w w') at K
  rw [isAt_pos] at K
  obtain ⟨_, _, _, _, _, _, _, c7, _⟩ := hL.cells
  obtain ⟨ra, rc, rfl⟩ := hr.shape
  generalize (rawG pd at' g).recs.length = m at *
  generalize g.idx b = f at *
  generalize g.hit b = t at *
  clear hL hr h
  go_enter Try.func37, Try.ntmps37
  go_wp2_with fail
  refine K.out.mono ?_
  rintro e w1 ⟨rfl, b1⟩
  go_wp2_with fail
  go_ret2
  exact ⟨rfl, b1⟩

/-! ### Read -/
def rdS (g : G) (b : Nat) : ByteArray := if g.hit b then g.recs.getD (g.idx b) ⟨#[]⟩ else ⟨#[]⟩
def rdN (g : G) (b : Nat) : Nat := if g.hit b then b + (14 + (rdS g b).size) else 0
def rdE (g : G) (b : Nat) : Nat := if g.hit b then 0 else 3
set_option maxRecDepth 100000 in
set_option maxHeartbeats 1000000 in
theorem read_any (h : Lg i T w q pd at' g) (ht : g.next ≤ 1000000000000) (b : Nat) : Calls Try.prog 18 #[.pointer (some ⟨q, 0, none⟩), .int .u64 (b : Int)] w fun e w' => e = .returned (.tuple #[.string (rdS g b), .int .u64 (rdN g b : Int), .int .i64 (rdE g b : Int)]) ∧ Below w.heap.size w w' := by
  have KF := Lib.hid (find_any h b)
  obtain ⟨rv, tv, hL⟩ := h.ex
  have KM := Lib.hid (made_any hL h.ok.life1)
  cases hb : g.hit b with
  | false =>
    have X := Lib.hid (show rdS g b = ⟨#[]⟩ ∧ rdN g b = 0 ∧ rdE g b = 3 from by unfold rdN rdE rdS; rw [hb]; exact ⟨rfl, rfl, rfl⟩)
    rw [hb] at KF
    obtain ⟨x1, x2, x3⟩ := X.out
    rw [x1, x2, x3]
    clear x1 x2 x3 hb X h hL
    go_enter Try.func18, Try.ntmps18
    go_wp2_with fail
    refine KM.out.mono ?_
    rintro e w1 ⟨rfl, rfl⟩
    go_wp2_with fail
    refine KF.out.mono ?_
    rintro e w1 ⟨rfl, b1⟩
    go_wp2_with fail
    go_ret3
    exact ⟨rfl, b1⟩
  | true =>
    obtain ⟨h1, h2⟩ := G.hit_yes hb
    have hx := List.getElem?_eq_getElem h1
    obtain ⟨x, hxx⟩ : ∃ x, x = g.recs[g.idx b] := ⟨_, rfl⟩
    rw [← hxx] at hx
    have hsz := h.ok.each x (List.mem_of_getElem? hx)
    have X := Lib.hid (show rdS g b = x ∧ rdN g b = b + (14 + x.size) ∧ rdE g b = 0 from by
      have e : rdS g b = x := by unfold rdS; rw [hb]; simp [List.getD, hx]
      refine ⟨e, ?_, ?_⟩
      · unfold rdN; rw [hb, e]; rfl
      · unfold rdE; rw [hb]; rfl)
    have hp : (rawG pd at' g).recs[g.idx b]? = some (b, x) := by
      show (pos g.first g.recs)[g.idx b]? = _
      rw [pos_get, hx]
      show some (g.first + sz (g.recs.take (g.idx b)), x) = _
      rw [h2]
    have hbn : b ≤ 1000000000000 := by
      have := sz_take_le g.recs (g.idx b)
      unfold G.next at ht
      omega
    have KL := Lib.hid (fun W => long_any x W (by omega))
    rw [lg_of hsz.1 hsz.2] at KL
    have KC := Lib.hid (fun W => Sum.clone_any x W (by omega))
    obtain ⟨ra, rc, hrv⟩ := hL.recs.shape
    have hrow := (hL.later (Below.refl _ _)).recs
    rw [hrv] at hrow
    obtain ⟨gb, o, hra, _, hgl, hc⟩ := hrow.at hp
    have c1 := hc 1 _ rfl
    change w.cell? ⟨gb, o + (g.idx b * 2 + 1), none⟩ = some (.string x) at c1
    rw [← Nat.add_assoc] at c1
    have LL := Lib.hid hL
    have hil : g.idx b < (rawG pd at' g).recs.length := by show _ < (pos g.first g.recs).length; rw [pos_len]; exact h1
    rw [hb] at KF
    obtain ⟨x1, x2, x3⟩ := X.out
    rw [x1, x2, x3]
    have hb8 : g.idx b ≤ 40000 := by have := h.ok.recs_len; omega
    subst hra hrv
    clear x1 x2 x3 hb X h hL hx hxx h1 h2 hp hrow hc
    generalize g.idx b = f at *
    generalize (rawG pd at' g).recs.length = m at *
    go_enter Try.func18, Try.ntmps18
    go_wp2_with fail
    refine KM.out.mono ?_
    rintro e w1 ⟨rfl, rfl⟩
    go_wp2_with fail
    refine KF.out.mono ?_
    rintro e w1 ⟨rfl, b1⟩
    obtain ⟨_, _, _, _, _, _, _, c7, _⟩ := (LL.out.later b1).cells
    have c1' := (World.cell?_of_block (a := ⟨gb, o + f * 2 + 1, none⟩) (b1.block gb hgl)).trans c1
    have B1 := Lib.hid b1
    have hsz2 : x.size ≤ 4096 := hsz.2
    clear b1 c1 LL KF KM
    go_wp2_with fail
    refine (KC.out _).mono ?_
    rintro e w2 ⟨rfl, b2⟩
    have B2 := Lib.hid (B1.out.trans (b2.mono B1.out.size))
    clear b2
    go_wp2_with fail
    refine (KL.out _).mono ?_
    rintro e w3 ⟨rfl, rfl⟩
    go_wp2_with fail
    go_ret3
    refine ⟨?_, B2.out⟩
    have e : ((b + (14 + x.size) : Nat) : Int) = (b : Int) + (14 + (x.size : Int)) := by omega
    rw [e]
    rfl

/-! ### Reserve -/
theorem rawG_room (ho : g.ok) : (rawG pd at' g).room = (g.room : Int) := by
  unfold R.room
  show max 0 ((g.n : Int) * 110 - ((g.next : Int) - (beg g.first : Int)) - (g.res : Int)) = _
  rw [← ho.room_eq]
  omega
def RsP (i q pd at' : Nat) (T : Nat → Nat) (g : G) (n : Int) (w : World) (e : Ending) (w' : World) : Prop := e = .returned (.int .i64 (rsE g n : Int)) ∧ Lg i T w' q pd at' (rsG g n) ∧ Step (· = i) T T w w'
set_option maxRecDepth 100000 in
set_option maxHeartbeats 1000000 in
theorem reserve_any (h : Lg i T w q pd at' g) (ht : g.next ≤ 1000000000000) (n : Int) (hn0 : -9223372036854775808 ≤ n) (hn1 : n ≤ 9223372036854775807) : Calls Try.prog 20 #[.pointer (some ⟨q, 0, none⟩), .int .i64 n] w (RsP i q pd at' T g n w) := by
  have hwf := h.wf ht
  obtain ⟨rv, tv, hL⟩ := h.ex
  have KM := Lib.hid (made_any hL h.ok.life1)
  have KR := Lib.hid (room_any hL hwf (by show g.first ≤ g.next; unfold G.next; omega))
  rw [rawG_room h.ok] at KR
  have LL := Lib.hid hL
  have OK := Lib.hid h.ok
  have OK2 := Lib.hid (rsG_ok h.ok n)
  have PO := Lib.hid (show ∀ (x : Nat) (W : World), rsE g n = x → Lg i T W q pd at' (rsG g n) → Step (· = i) T T w W → RsP i q pd at' T g n w (.returned (.int .i64 (x : Int))) W from fun x W h1 h2 h3 => ⟨by rw [h1], h2, h3⟩)
  have hat := h.hat
  have hres := h.ok.res_le
  have hrm : g.room ≤ 450560 := by unfold G.room; have := h.ok.n12; omega
  obtain ⟨_, _, _, _, _, _, _, _, _, c9⟩ := hL.cells
  change w.cell? ⟨q, 9, none⟩ = some (.int .i64 (g.res : Int)) at c9
  have lt := Lib.hid hL.lt
  clear h hL hwf
  by_cases h1 : (g.room : Int) < n
  · have X := Lib.hid (show rsE g n = 4 ∧ rsG g n = g from by
      have e : rsE g n = 4 := by unfold rsE; rw [if_pos h1]
      exact ⟨e, by unfold rsG; rw [e]; rfl⟩)
    have e1 : decide ((g.room : Int) < n) = true := decide_eq_true h1
    generalize hm : g.room = m at *
    go_enter Try.func20, Try.ntmps20
    go_wp2_with fail
    refine KM.out.mono ?_
    rintro e w1 ⟨rfl, rfl⟩
    go_wp2_with fail
    refine KR.out.mono ?_
    rintro e w1 ⟨rfl, b1⟩
    have P := Lib.hid (PO.out 4 w1 X.out.1 (by rw [X.out.2]; exact ⟨OK.out, ⟨rv, tv, LL.out.later b1⟩, hat⟩) (Step.below _ lt.out b1))
    clear b1
    go_wp2_with fail
    go_ret
    exact P.out
  · have e1 : decide ((g.room : Int) < n) = false := decide_eq_false h1
    have wr : IntKind.i64.wrap ((g.res : Int) + n) = (g.res : Int) + n := wrap_i64 (by omega) (by omega)
    by_cases h2 : (g.res : Int) + n < 0
    · have X := Lib.hid (show rsE g n = 2 ∧ rsG g n = g from by
        have e : rsE g n = 2 := by unfold rsE; rw [if_neg h1, if_pos h2]
        exact ⟨e, by unfold rsG; rw [e]; rfl⟩)
      have e2 : decide ((g.res : Int) + n < 0) = true := decide_eq_true h2
      generalize hm : g.room = m at *
      go_enter Try.func20, Try.ntmps20
      go_wp2_with fail
      refine KM.out.mono ?_
      rintro e w1 ⟨rfl, rfl⟩
      go_wp2_with fail
      refine KR.out.mono ?_
      rintro e w1 ⟨rfl, b1⟩
      have P := Lib.hid (PO.out 2 w1 X.out.1 (by rw [X.out.2]; exact ⟨OK.out, ⟨rv, tv, LL.out.later b1⟩, hat⟩) (Step.below _ lt.out b1))
      obtain ⟨_, _, _, _, _, _, _, _, _, d9⟩ := (LL.out.later b1).cells
      change w1.cell? ⟨q, 9, none⟩ = some (.int .i64 (g.res : Int)) at d9
      clear b1
      go_wp2_with fail
      go_ret
      exact P.out
    · obtain ⟨z, hz⟩ : ∃ z : Nat, (g.res : Int) + n = (z : Int) := ⟨((g.res : Int) + n).toNat, by omega⟩
      have X := Lib.hid (show rsE g n = 0 ∧ rsG g n = { g with res := z } from by
        have e : rsE g n = 0 := by unfold rsE; rw [if_neg h1, if_neg h2]
        exact ⟨e, by unfold rsG; rw [e, hz]; rfl⟩)
      have e2 : decide ((g.res : Int) + n < 0) = false := decide_eq_false h2
      have wr2 : IntKind.i64.wrap ((g.res : Int) + n) = (z : Int) := wr.trans hz
      rw [hz] at e2
      clear wr
      generalize hm : g.room = m at *
      go_enter Try.func20, Try.ntmps20
      go_wp2_with fail
      refine KM.out.mono ?_
      rintro e w1 ⟨rfl, rfl⟩
      go_wp2_with fail
      refine KR.out.mono ?_
      rintro e w1 ⟨rfl, b1⟩
      have L1 := LL.out.later b1
      obtain ⟨_, _, _, _, _, _, _, _, _, d9⟩ := L1.cells
      change w1.cell? ⟨q, 9, none⟩ = some (.int .i64 (g.res : Int)) at d9
      have d9f := L1.free 9
      have hset := L1.set (r' := rawG pd at' { g with res := z }) 9 (.int .i64 (z : Int)) rfl rfl rfl
      have P := Lib.hid (PO.out 0 _ X.out.1 (by rw [X.out.2]; exact ⟨by rw [← X.out.2]; exact OK2.out, ⟨rv, tv, hset.1⟩, hat⟩) ((Step.below _ lt.out b1).trans hset.2 (by have := L1.ipos; omega)))
      clear b1 L1 hset
      go_wp2_with fail
      go_ret
      exact P.out
end

end Go.Proofs.Ytgohpompgiljiaa.Log

namespace Go.Proofs.Ytgohpompgiljiaa.Log
open Go.RowKit
open Go.Proofs.Ytgohpompgiljiaa.Sl (Sl Step re)
open Go.Proofs.Ytgohpompgiljiaa.Disk (grew)
open Go.Proofs.Ytgohpompgiljiaa.Seq (byteS recS recC all)
attribute [local go_sem ↓] Go.wp_at_zero Go.wp_at_succ

section
variable {i q : Nat} {T : Nat → Nat} {w w2 : World} {r r' : R} {rv tv v' : Value}
theorem Lr.keptHead (h : Lr i T w q r rv tv) {k : Nat} (hk : k ≠ i) (t : Disk.Touch (fun b => T b = k) w w2) : w2.heap[q]? = w.heap[q]? :=
  t.block q h.qlt (by rw [h.tq]; exact fun e => hk e.symm)
/-- another list of records -/
theorem Lr.push (h : Lr i T w q r rv tv) {l : List (Nat × ByteArray)} (hs : Sl recS (grew (fun b => T b = i + 1) w w2) w2 v' l) (t : Disk.Touch (fun b => T b = i + 1) w w2) (e : (logC r rv tv).setIfInBounds 7 v' = logC r' v' tv) (e1 : r'.recs = l) (e2 : r'.tail = r.tail) :
    Lr i (re T w w2 (i + 1)) (w2.setCell ⟨q, 7, none⟩ v') q r' v' tv ∧ Step (fun k => k = i ∨ k = i + 1) T (re T w w2 (i + 1)) w (w2.setCell ⟨q, 7, none⟩ v') := by
  have hp := h.ipos
  have hq := h.qlt
  have s1 : Step (fun k => k = i ∨ k = i + 1) T (re T w w2 (i + 1)) w w2 := Step.re (.inr rfl) t
  have hh := (h.keptHead (by omega) t).trans h.head
  have lt2 := s1.lt h.lt (by omega)
  have tq : re T w w2 (i + 1) q = i := (s1.old q hq).trans h.tq
  have t2 : Disk.Touch (fun b => re T w w2 (i + 1) b = i) w2 (w2.setCell ⟨q, 7, none⟩ v') := (Disk.Touch.refl _ _).setCell (x := ⟨q, 7, none⟩) tq v'
  have s2 : Step (fun k => k = i ∨ k = i + 1) (re T w w2 (i + 1)) (re T w w2 (i + 1)) w2 (w2.setCell ⟨q, 7, none⟩ v') := ⟨t2.mono (fun b hb => .inl hb), fun _ _ => rfl, fun b hb => .inl (by
    by_cases e0 : re T w w2 (i + 1) b = 0
    · exact e0
    · have := lt2 b e0; omega)⟩
  refine ⟨⟨by rw [heap_setCell_same w2 q 7 _ _ v' hh, e], ?_, ?_, tq, fun b hb => by simpa using lt2 b hb, hp⟩, s1.trans s2 (by omega)⟩
  · rw [e1]
    exact (hs.mono (fun b hb _ => (Sl.re_grew h.lt (by omega) b).2 hb)).touch t2 (fun b hb hi => by omega)
  · rw [e2]
    have h1 := h.tail.touch t (fun b hb hi => by omega)
    refine (h1.mono (G := fun b => re T w w2 (i + 1) b = i + 2) (fun b hb hlt => ?_)).touch t2 (fun b hb hi => by omega)
    rw [s1.old b (h.lt b (by omega))]; exact hb
/-- another tail -/
theorem Lr.pushT (h : Lr i T w q r rv tv) {l : List UInt8} (hs : Sl byteS (grew (fun b => T b = i + 2) w w2) w2 v' l) (t : Disk.Touch (fun b => T b = i + 2) w w2) (e : (logC r rv tv).setIfInBounds 8 v' = logC r' rv v') (e1 : r'.tail = l) (e2 : r'.recs = r.recs) :
    Lr i (re T w w2 (i + 2)) (w2.setCell ⟨q, 8, none⟩ v') q r' rv v' ∧ Step (fun k => k = i ∨ k = i + 2) T (re T w w2 (i + 2)) w (w2.setCell ⟨q, 8, none⟩ v') := by
  have hp := h.ipos
  have hq := h.qlt
  have s1 : Step (fun k => k = i ∨ k = i + 2) T (re T w w2 (i + 2)) w w2 := Step.re (.inr rfl) t
  have hh := (h.keptHead (by omega) t).trans h.head
  have lt2 := s1.lt h.lt (by omega)
  have tq : re T w w2 (i + 2) q = i := (s1.old q hq).trans h.tq
  have t2 : Disk.Touch (fun b => re T w w2 (i + 2) b = i) w2 (w2.setCell ⟨q, 8, none⟩ v') := (Disk.Touch.refl _ _).setCell (x := ⟨q, 8, none⟩) tq v'
  have s2 : Step (fun k => k = i ∨ k = i + 2) (re T w w2 (i + 2)) (re T w w2 (i + 2)) w2 (w2.setCell ⟨q, 8, none⟩ v') := ⟨t2.mono (fun b hb => .inl hb), fun _ _ => rfl, fun b hb => .inl (by
    by_cases e0 : re T w w2 (i + 2) b = 0
    · exact e0
    · have := lt2 b e0; omega)⟩
  refine ⟨⟨by rw [heap_setCell_same w2 q 8 _ _ v' hh, e], ?_, ?_, tq, fun b hb => by simpa using lt2 b hb, hp⟩, s1.trans s2 (by omega)⟩
  · rw [e2]
    have h1 := h.recs.touch t (fun b hb hi => by omega)
    refine (h1.mono (G := fun b => re T w w2 (i + 2) b = i + 1) (fun b hb hlt => ?_)).touch t2 (fun b hb hi => by omega)
    rw [s1.old b (h.lt b (by omega))]; exact hb
  · rw [e1]
    exact (hs.mono (fun b hb _ => (Sl.re_grew h.lt (by omega) b).2 hb)).touch t2 (fun b hb hi => by omega)
end

/-! ### add -/
def addR (r : R) (s : ByteArray) : R := { r with recs := r.recs ++ [(r.next, s)], next := r.next + lg s.size }
def AddP (i q : Nat) (T : Nat → Nat) (r : R) (s : ByteArray) (tv : Value) (w : World) (e : Ending) (w' : World) : Prop := e = .returned (.tuple #[]) ∧ ∃ T' rv', Lr i T' w' q (addR r s) rv' tv ∧ Step (fun k => k = i ∨ k = i + 1) T T' w w'
set_option maxRecDepth 100000 in
set_option maxHeartbeats 4000000 in
theorem add_any {i q : Nat} {T : Nat → Nat} {w : World} {r : R} {rv tv : Value} (h : Lr i T w q r rv tv) (hn : r.next ≤ 1000000000000) (hl : r.recs.length ≤ 1000000) (s : ByteArray) (hs : s.size ≤ 140737488351232) :
    Calls Try.prog 29 #[.pointer (some ⟨q, 0, none⟩), .string s] w (AddP i q T r s tv w) := by
  have PO := Lib.hid (show ∀ T' rv' W, Lr i T' W q (addR r s) rv' tv → Step (fun k => k = i ∨ k = i + 1) T T' w W → AddP i q T r s tv w (.returned (.tuple #[])) W from fun T' rv' W h1 h2 => ⟨rfl, T', rv', h1, h2⟩)
  have KL := Lib.hid (fun W => long_any s W hs)
  have LL := Lib.hid h
  obtain ⟨_, _, _, _, _, c5, _, c7, _, _⟩ := h.cells
  obtain ⟨ra, rc, rfl⟩ := h.recs.shape
  have f7 := h.free 7
  have hz := lg_le s.size
  obtain ⟨z, hzz⟩ : ∃ z, z = lg s.size := ⟨_, rfl⟩
  have HZ := Lib.hid hzz
  rw [← hzz] at KL hz
  clear h hzz
  obtain ⟨m, hm⟩ : ∃ m, m = r.recs.length := ⟨_, rfl⟩
  have HM := Lib.hid hm
  rw [← hm] at c7 hl
  have L2 : Hid (Lr i T w q r (.slice ra m rc) tv) := Lib.hid (by rw [hm]; exact LL.out)
  clear hm LL
  obtain ⟨n, hnn⟩ : ∃ n, n = r.next := ⟨_, rfl⟩
  have HN := Lib.hid hnn
  rw [← hnn] at c5 hn
  clear hnn
  go_enter Try.func29, Try.ntmps29
  go_upto_region 0 with fail
  have BA := Lib.hid (show Below w.heap.size w (w.drew.alloc (.cells #[.int .u64 (n : Int), .string s] 79)) from ((Below.refl _ _).drew).alloc (Nat.le_refl _) _)
  have LA := Lib.hid (L2.out.later BA.out)
  have SR := Lib.hid (show Go.Src Try.prog recS.k recS.t (.slice (some ⟨w.heap.size, 0, none⟩) 1 1) 1 (all recS [(n, s)]) (w.drew.alloc (.cells #[.int .u64 (n : Int), .string s] 79)) from Sl.src_one recS w.drew (n, s))
  have hq := L2.out.qlt
  have HL := Lib.hid (show r.recs.length + [(n, s)].length ≤ 1000000000 by rw [← HM.out]; simp; omega)
  go_region_law (first | (refine Sl.step_app (S := recS) (m := [(n, s)]) rfl _ _ rfl LA.out.recs SR.out HL.out rfl rfl ?_; intro v4 w4 t4 g4; have N4 := Lib.hid (LA.out.push t4 g4 (r' := { r with recs := r.recs ++ [(n, s)] }) rfl rfl rfl); obtain ⟨ad4, nn4, cp4, rfl⟩ := t4.shape3; have h24 := (LA.out.keptHead (by omega) g4).trans LA.out.head; have f24 : w4.frozen? ⟨q, 7, none⟩ = false := frozen_of_row _ _ _ _ _ h24; have c24 : w4.cell? ⟨q, 7, none⟩ = some (.slice ra m rc) := (cell_of_row _ _ _ _ _ _ h24).trans rfl; clear h24 t4 g4))
  all_goals
    have N5 := Lib.hid N4.out
    clear c24 f24 N4
    go_upto_region 1 with fail
    generalize World.setCell _ _ _ = W5 at *
    generalize re _ _ _ _ = T5 at *
    obtain ⟨l5, s5⟩ := N5.out
    obtain ⟨_, _, _, _, _, d5, _, _, _, _⟩ := l5.cells
    change W5.cell? ⟨q, 5, none⟩ = some (.int .u64 (r.next : Int)) at d5
    rw [← HN.out] at d5
    have e5 := l5.free 5
    have B5 : Below W5.heap.size W5 W5.drew := (Below.refl _ _).drew
    have N6 := Lib.hid ((l5.later B5).set (r' := addR r s) 5 (.int .u64 ((r.next + lg s.size : Nat) : Int)) rfl (by show r.recs ++ [(r.next, s)] = r.recs ++ [(n, s)]; rw [HN.out]) rfl)
    rw [← HN.out, ← HZ.out] at N6
    have ea : ((n + z : Nat) : Int) = (n : Int) + (z : Int) := by omega
    rw [ea] at N6
    have S5 := Lib.hid ((Step.below (fun k => k = i ∨ k = i + 1) L2.out.lt BA.out).trans s5 (by have := L2.out.ipos; omega))
    have S6 := Lib.hid ((S5.out.trans (Step.below _ l5.lt B5) (by have := L2.out.ipos; omega)).trans (N6.out.2.mono (fun k hk => .inl hk)) (by have := L2.out.ipos; omega))
    clear l5 s5 ea N5 LA SR HL BA hq c5 c7 f7 S5 B5
    (refine wp_region_still_tail 9 (by kernel_rfl) (by kernel_rfl) (still_of_quiet _ _ ?_); simp only [List.take_succ_cons, List.take_zero, List.drop_succ_cons, List.drop_zero]; (repeat (first | go_big_quiet_skip | (go_big_quiet_want; go_big_quiet_op; first | go_big_quiet_on | (apply Exists.intro; refine ⟨?_, ?_⟩; (first | (go_at_call 47; exact quiet_one (KL.out _))); go_big_quiet_on)))); refine wpQuiet_nil ?_)
    change wpList _ _ _ _ _ W5.drew
    go_wp2_with fail
    go_end0
    exact PO.out _ _ _ N6.out.1 S6.out

end Go.Proofs.Ytgohpompgiljiaa.Log
