/-
  Walks: through all parts of a head.
  Walks: what rows leave, room, may, same.
  Walks: a head is written.
  Walks: a head is read.
  Walks: the area of a page's rows.
  Walks: one step over a bit, and the table.
  Walks: the sum.
  Walks: the document's sum, bit by bit.
  Walks: the number behind a sealed text, and sealing.
  A buffer of bytes that a call has made: appended to byte by byte, made out of a text, and back.
  Walks: sealing.
  Walks: the document's sealing.
-/
import Derived.Test.YtmandeohbiagfaaProg
import Derived.WalkKit
import Derived.WalkSpells
import Derived.WalkLawsBesides
import Derived.Lib.Hide
import Derived.Laws.BitsAllLaws
import Derived.Laws.Rows
import Derived.Laws.CopyOwn
import Derived.Deep.WholeRow
import Derived.Lib.BufSteps
import Derived.Lib.BufferWrite
import Derived.Laws.IdiomStrings
import Derived.Laws.IdiomCopy
import Derived.ArgAppend
import Derived.Laws.MakeOwn
import Derived.Test.YtmandeohbiagfaaZ3
namespace Go.Proofs.Ytmandeohbiagfaa.Page
open Go.RowKit
attribute [local go_sem ↓] Go.wp_at_zero Go.wp_at_succ

/-- the functions of the parts, in order -/
def partF (hd : Nat) : Array Value := #[.func (.func 62) #[.pointer (some ⟨hd, 0, none⟩)] #[], .func (.func 63) #[.pointer (some ⟨hd, 0, none⟩)] #[], .func (.func 64) #[.pointer (some ⟨hd, 0, none⟩)] #[], .func (.func 65) #[.pointer (some ⟨hd, 0, none⟩)] #[], .func (.func 66) #[.pointer (some ⟨hd, 0, none⟩)] #[], .func (.func 67) #[.pointer (some ⟨hd, 0, none⟩)] #[]]
/-- a block of the parts' functions -/
def Fns (w : World) (g hd : Nat) : Prop := w.heap[g]? = some (.cells (partF hd) 74 (0, 0))
/-- a call of a part, ahead of which S holds, and behind it T -/
def Part (F : FuncId) (hd : Nat) (c : Value) (S T : World → Prop) : Prop := ∀ (w : World) (g : Nat), S w → Fns w g hd → Calls Try.prog F #[.pointer (some ⟨hd, 0, none⟩), c] w fun e w' => e = .returned (.tuple #[]) ∧ T w' ∧ Fns w' g hd

set_option maxRecDepth 100000 in
set_option maxHeartbeats 2000000 in
theorem through_any {hd : Nat} {c : Value} {w : World} (S : Nat → World → Prop) (h0 : S 0 w) (hs : ∀ (o : Obj), S 0 w → S 0 (w.alloc o))
    (p0 : Part 62 hd c (S 0) (S 1)) (p1 : Part 63 hd c (S 1) (S 2)) (p2 : Part 64 hd c (S 2) (S 3)) (p3 : Part 65 hd c (S 3) (S 4)) (p4 : Part 66 hd c (S 4) (S 5)) (p5 : Part 67 hd c (S 5) (S 6)) :
    Calls Try.prog 40 #[.pointer (some ⟨hd, 0, none⟩), c] w fun e w' => e = .returned (.tuple #[]) ∧ S 6 w' := by
  have P0 := Lib.hid p0
  have P1 := Lib.hid p1
  have P2 := Lib.hid p2
  have P3 := Lib.hid p3
  have P4 := Lib.hid p4
  have P5 := Lib.hid p5
  have S0 := Lib.hid (hs (.cells (partF hd) 74 (0, 0)) h0)
  have F0 := Lib.hid (show Fns (w.alloc (.cells (partF hd) 74 (0, 0))) w.heap.size hd from heap_alloc_new w _)
  clear p0 p1 p2 p3 p4 p5 h0 hs
  go_enter Try.func40, Try.ntmps40
  go_wp2_with fail
  change Code.wp _ _ _ _ (w.alloc (.cells (partF hd) 74 (0, 0)))
  generalize w.alloc (.cells (partF hd) 74 (0, 0)) = W at *
  generalize w.heap.size = g at *
  go_loopw [20] (fun i wr => ∃ k : Nat, k ≤ 6 ∧ i = .int .i64 k ∧ S k wr ∧ Fns wr g hd) (fun i _ => 6 - (intOf i).toNat)
  case atStart => exact ⟨0, by omega, by go_num, S0.out, F0.out⟩
  case round =>
    obtain ⟨k, hk, rfl, hS, hF⟩ := hrel
    clear S0 F0
    have HS := Lib.hid hS
    have HF := Lib.hid hF
    have hc : ∀ j v, (partF hd)[j]? = some v → wr.cell? ⟨g, j, none⟩ = some v := fun j v hv => by rw [cell_of_row _ _ _ _ _ _ hF]; exact hv
    clear hS hF
    rcases (show k = 0 ∨ k = 1 ∨ k = 2 ∨ k = 3 ∨ k = 4 ∨ k = 5 ∨ k = 6 by omega) with rfl | rfl | rfl | rfl | rfl | rfl | rfl
    · have c0 : wr.cell? ⟨g, 0, none⟩ = some (.func (.func 62) #[.pointer (some ⟨hd, 0, none⟩)] #[]) := hc 0 _ rfl
      have Q := Lib.hid (P0.out wr g HS.out HF.out)
      clear hc
      simp only [show ((0 : Nat) : Int) = 0 from rfl]
      go_wp2_with fail
      refine Q.out.mono ?_
      rintro e w1 ⟨rfl, h1, h2⟩
      have H1 := Lib.hid h1
      have H2 := Lib.hid h2
      clear h1 h2
      go_wp2_with fail
      go_roundw
      case rel => exact ⟨1, by omega, by go_num, H1.out, H2.out⟩
      case measure => simp [intOf]
    · have c0 : wr.cell? ⟨g, 1, none⟩ = some (.func (.func 63) #[.pointer (some ⟨hd, 0, none⟩)] #[]) := hc 1 _ rfl
      have Q := Lib.hid (P1.out wr g HS.out HF.out)
      clear hc
      simp only [show ((1 : Nat) : Int) = 1 from rfl]
      go_wp2_with fail
      refine Q.out.mono ?_
      rintro e w1 ⟨rfl, h1, h2⟩
      have H1 := Lib.hid h1
      have H2 := Lib.hid h2
      clear h1 h2
      go_wp2_with fail
      go_roundw
      case rel => exact ⟨2, by omega, by go_num, H1.out, H2.out⟩
      case measure => simp [intOf]
    · have c0 : wr.cell? ⟨g, 2, none⟩ = some (.func (.func 64) #[.pointer (some ⟨hd, 0, none⟩)] #[]) := hc 2 _ rfl
      have Q := Lib.hid (P2.out wr g HS.out HF.out)
      clear hc
      simp only [show ((2 : Nat) : Int) = 2 from rfl]
      go_wp2_with fail
      refine Q.out.mono ?_
      rintro e w1 ⟨rfl, h1, h2⟩
      have H1 := Lib.hid h1
      have H2 := Lib.hid h2
      clear h1 h2
      go_wp2_with fail
      go_roundw
      case rel => exact ⟨3, by omega, by go_num, H1.out, H2.out⟩
      case measure => simp [intOf]
    · have c0 : wr.cell? ⟨g, 3, none⟩ = some (.func (.func 65) #[.pointer (some ⟨hd, 0, none⟩)] #[]) := hc 3 _ rfl
      have Q := Lib.hid (P3.out wr g HS.out HF.out)
      clear hc
      simp only [show ((3 : Nat) : Int) = 3 from rfl]
      go_wp2_with fail
      refine Q.out.mono ?_
      rintro e w1 ⟨rfl, h1, h2⟩
      have H1 := Lib.hid h1
      have H2 := Lib.hid h2
      clear h1 h2
      go_wp2_with fail
      go_roundw
      case rel => exact ⟨4, by omega, by go_num, H1.out, H2.out⟩
      case measure => simp [intOf]
    · have c0 : wr.cell? ⟨g, 4, none⟩ = some (.func (.func 66) #[.pointer (some ⟨hd, 0, none⟩)] #[]) := hc 4 _ rfl
      have Q := Lib.hid (P4.out wr g HS.out HF.out)
      clear hc
      simp only [show ((4 : Nat) : Int) = 4 from rfl]
      go_wp2_with fail
      refine Q.out.mono ?_
      rintro e w1 ⟨rfl, h1, h2⟩
      have H1 := Lib.hid h1
      have H2 := Lib.hid h2
      clear h1 h2
      go_wp2_with fail
      go_roundw
      case rel => exact ⟨5, by omega, by go_num, H1.out, H2.out⟩
      case measure => simp [intOf]
    · have c0 : wr.cell? ⟨g, 5, none⟩ = some (.func (.func 67) #[.pointer (some ⟨hd, 0, none⟩)] #[]) := hc 5 _ rfl
      have Q := Lib.hid (P5.out wr g HS.out HF.out)
      clear hc
      simp only [show ((5 : Nat) : Int) = 5 from rfl]
      go_wp2_with fail
      refine Q.out.mono ?_
      rintro e w1 ⟨rfl, h1, h2⟩
      have H1 := Lib.hid h1
      have H2 := Lib.hid h2
      clear h1 h2
      go_wp2_with fail
      go_roundw
      case rel => exact ⟨6, by omega, by go_num, H1.out, H2.out⟩
      case measure => simp [intOf]
    · clear hc
      simp only [show ((6 : Nat) : Int) = 6 from rfl]
      go_wp2_with fail
      go_end0
      exact ⟨rfl, HS.out⟩

end Go.Proofs.Ytmandeohbiagfaa.Page

namespace Go.Proofs.Ytmandeohbiagfaa.Page
open Go.RowKit
attribute [local go_sem ↓] Go.wp_at_zero Go.wp_at_succ

/-- the cells of a page in a block of its own -/
def pgC (p : Pg) (v : Value) : Array Value := #[.int .u8 (p.kind : Int), .int .u8 (p.level : Int), .int .u32 (p.id : Int), .int .u64 (p.lsn : Int), .int .u32 (p.next : Int), v]
def sameB (p q : Pg) : Bool := decide (p.kind = q.kind ∧ p.level = q.level ∧ p.id = q.id ∧ p.lsn = q.lsn ∧ p.next = q.next ∧ p.rows = q.rows)
theorem same_iff (p q : Pg) : sameB p q = true ↔ p = q := by
  unfold sameB
  rw [decide_eq_true_iff]
  constructor
  · obtain ⟨a, b, c, d, e, f⟩ := p
    obtain ⟨a', b', c', d', e', f'⟩ := q
    simp only
    rintro ⟨rfl, rfl, rfl, rfl, rfl, rfl⟩
    rfl
  · rintro rfl
    exact ⟨rfl, rfl, rfl, rfl, rfl, rfl⟩

theorem equal_any {w : World} {v1 v2 : Value} {l1 l2 : List ByteArray} (h1 : Rows w v1 l1) (h2 : Rows w v2 l2) (n1 : l1.length ≤ 9223372036854775807) (n2 : l2.length ≤ 9223372036854775807) :
    Calls Try.prog 32 #[v1, v2] w fun e w' => e = .returned (.bool (decide (l1 = l2))) ∧ Below w.heap.size w w' := by
  obtain ⟨a1, c1, rfl, k1⟩ := h1
  obtain ⟨a2, c2, rfl, k2⟩ := h2
  by_cases hl : l1.length = l2.length
  · rcases k1 with rfl | ⟨b1, o1, rfl, hb1, hc1⟩
    · refine (Try.slices_Equal_string_empty a1 a2 c1 l2.length c2 w n2).mono ?_
      rintro e w' ⟨rfl, rfl⟩
      refine ⟨ret_bool ?_, Below.refl _ _⟩
      have : l2 = [] := List.eq_nil_of_length_eq_zero hl.symm
      subst this
      rfl
    · rcases k2 with rfl | ⟨b2, o2, rfl, hb2, hc2⟩
      · have : l1 = [] := List.eq_nil_of_length_eq_zero hl
        subst this
        refine (Try.slices_Equal_string_empty (some ⟨b1, o1, none⟩) a2 c1 0 c2 w (by omega)).mono ?_
        rintro e w' ⟨rfl, rfl⟩
        exact ⟨rfl, Below.refl _ _⟩
      · refine (Try.slices_Equal_string b1 o1 l1.length c1 b2 o2 l2.length c2 l1 l2 w (Nat.le_refl _) (Nat.le_refl _) n1 n2 hc1 hc2).mono ?_
        rintro e w' ⟨rfl, q, rfl⟩
        rw [List.take_length, List.take_length]
        exact ⟨rfl, rfl, rfl, rfl, Nat.le_refl _, fun _ _ => rfl⟩
  · refine (Try.slices_Equal_string_lens a1 a2 l1.length c1 l2.length c2 w hl).mono ?_
    rintro e w' ⟨rfl, rfl⟩
    refine ⟨ret_bool ?_, Below.refl _ _⟩
    symm
    rw [decide_eq_false_iff_not]
    rintro rfl
    exact hl rfl

theorem room_left (l : List ByteArray) : max (leftI l - 4) (-1) = roomI l := by
  unfold leftI roomI
  split <;> split <;> omega
theorem left_lt (l : List ByteArray) : -1 ≤ leftI l ∧ leftI l ≤ 484 := by unfold leftI; split <;> omega

set_option maxRecDepth 100000 in
set_option maxHeartbeats 1000000 in
theorem room_any {w : World} {v : Value} (p : Pg) (h : Rows w v p.rows) (hu : used p.rows ≤ 1000000) : Calls Try.prog 14 #[pgV p v] w fun e w' => e = .returned (.int .i64 (roomI p.rows)) ∧ Below w.heap.size w w' := by
  have L := fun o : Obj => left_any (h.alloc o) hu
  have e := room_left p.rows
  have hb := left_lt p.rows
  have E := Lib.hid e
  have LL := Lib.hid L
  have B := Lib.hid (fun o : Obj => (Below.refl w.heap.size w).alloc (Nat.le_refl _) o)
  generalize leftI p.rows = x at *
  clear L e h hu
  unfold pgV
  go_enter Try.func14, Try.ntmps14
  go_wp2_with fail
  refine (LL.out _).mono ?_
  rintro e w' ⟨rfl, rfl⟩
  go_wp2_with fail
  all_goals
    go_ret
    exact ⟨by rw [← E.out]; rfl, B.out _⟩

theorem may_of (p : Pg) : mayP p = (decide (p.kind ≤ 5) && (decide (1 ≤ p.id) && (decide (p.id ≤ 1024) && (decide (p.next ≤ 1024) && decide (0 ≤ leftI p.rows))))) := by
  unfold mayP leftI
  rw [Bool.eq_iff_iff]
  simp only [Bool.and_eq_true, decide_eq_true_eq]
  split <;> omega

set_option maxRecDepth 100000 in
set_option maxHeartbeats 1000000 in
theorem may_any {w : World} {v : Value} (p : Pg) (h : Rows w v p.rows) (hu : used p.rows ≤ 1000000) : Calls Try.prog 12 #[pgV p v] w fun e w' => e = .returned (.bool (mayP p)) ∧ Below w.heap.size w w' := by
  have L := fun o : Obj => left_any (h.alloc o) hu
  have e := may_of p
  have E := Lib.hid e
  have LL := Lib.hid L
  have B := Lib.hid (fun o : Obj => (Below.refl w.heap.size w).alloc (Nat.le_refl _) o)
  obtain ⟨kind, level, id, lsn, next, rows⟩ := p
  simp only at *
  generalize leftI rows = x at *
  clear L e h hu
  unfold pgV
  simp only
  go_enter Try.func12, Try.ntmps12
  go_wp2_with (go_at_call 30; refine (LL.out _).mono ?_; rintro e w' ⟨rfl, rfl⟩)
  all_goals
    go_ret
    exact ⟨ret_bool (by rw [E.out, Bool.eq_iff_iff]; simp only [Bool.and_eq_true, decide_eq_true_eq, Bool.false_eq_true, false_iff]; omega), B.out _⟩

def cB (a b : Nat) : Bool := decide (a = b)
theorem cB_yes {a b : Nat} (h : (a : Int) = (b : Int)) : cB a b = true := decide_eq_true (by omega)
theorem cB_no {a b : Nat} (h : ¬ (a : Int) = (b : Int)) : cB a b = false := decide_eq_false (by omega)
theorem same_of (p q : Pg) : sameB p q = (cB p.kind q.kind && (cB p.level q.level && (cB p.id q.id && (cB p.lsn q.lsn && (cB p.next q.next && decide (p.rows = q.rows)))))) := by
  unfold sameB cB
  rw [Bool.eq_iff_iff]
  simp only [Bool.and_eq_true, decide_eq_true_eq]

theorem below2 (w : World) (o o2 : Obj) : Below w.heap.size w ((w.alloc o).alloc o2) := ((Below.refl _ _).alloc (Nat.le_refl _) o).alloc (by simp) o2

set_option maxRecDepth 100000 in
set_option maxHeartbeats 2000000 in
theorem same_any {w : World} {v1 v2 : Value} (p q : Pg) (h1 : Rows w v1 p.rows) (h2 : Rows w v2 q.rows) (n1 : p.rows.length ≤ 9223372036854775807) (n2 : q.rows.length ≤ 9223372036854775807) :
    Calls Try.prog 16 #[pgV p v1, pgV q v2] w fun e w' => e = .returned (.bool (sameB p q)) ∧ Below w.heap.size w w' := by
  have L := fun o o2 : Obj => equal_any ((h1.alloc o).alloc o2) ((h2.alloc o).alloc o2) n1 n2
  have e := same_of p q
  have E := Lib.hid e
  have LL := Lib.hid L
  have B := Lib.hid (below2 w)
  obtain ⟨kind, level, id, lsn, next, rows⟩ := p
  obtain ⟨kind2, level2, id2, lsn2, next2, rows2⟩ := q
  simp only at *
  generalize decide (rows = rows2) = x at *
  generalize sameB _ _ = y at *
  clear L e h1 h2 n1 n2
  unfold pgV
  simp only
  go_enter Try.func16, Try.ntmps16
  go_wp2_with (go_at_call 32; refine (LL.out _ _).mono ?_; rintro e w' ⟨rfl, b⟩)
  all_goals
    have hr : ∀ z : Bool, y = z → (Ending.returned (.bool z) : Ending) = .returned (.bool y) := fun z hz => by rw [hz]
    go_ret
    first
    | exact ⟨hr _ (by rw [E.out, cB_no (a := kind) (b := kind2) (by omega)]; simp), B.out _ _⟩
    | exact ⟨hr _ (by rw [E.out, cB_no (a := level) (b := level2) (by omega)]; simp), B.out _ _⟩
    | exact ⟨hr _ (by rw [E.out, cB_no (a := id) (b := id2) (by omega)]; simp), B.out _ _⟩
    | exact ⟨hr _ (by rw [E.out, cB_no (a := lsn) (b := lsn2) (by omega)]; simp), B.out _ _⟩
    | exact ⟨hr _ (by rw [E.out, cB_no (a := next) (b := next2) (by omega)]; simp), B.out _ _⟩
    | exact ⟨hr _ (by rw [E.out, cB_yes (a := kind) (b := kind2) (by omega), cB_yes (a := level) (b := level2) (by omega), cB_yes (a := id) (b := id2) (by omega), cB_yes (a := lsn) (b := lsn2) (by omega), cB_yes (a := next) (b := next2) (by omega)]; simp), (B.out _ _).trans (b.mono (B.out _ _).size)⟩

end Go.Proofs.Ytmandeohbiagfaa.Page

namespace Go.Proofs.Ytmandeohbiagfaa.Page
open Go.RowKit
attribute [local go_sem ↓] Go.wp_at_zero Go.wp_at_succ

/-- a value is stored over itself -/
theorem below_same {w : World} {hd k : Nat} {cs : Array Value} {t : TypeId} {v : Value} (h : w.heap[hd]? = some (.cells cs t (0, 0))) (hv : cs[k]? = some v) (n : Nat) : Below n w (w.setCell ⟨hd, k, none⟩ v) := by
  refine ⟨rfl, rfl, rfl, by simp [World.setCell], fun j _ => ?_⟩
  by_cases e : j = hd
  · subst e
    rw [heap_setCell_same w j k _ _ _ h, h]
    congr 2
    apply Array.ext_getElem?
    intro i
    rw [Array.getElem?_setIfInBounds]
    by_cases ei : k = i
    · subst ei
      have := (Array.getElem?_eq_some_iff.1 hv).1
      rw [if_pos rfl, if_pos this, hv]
    · rw [if_neg ei]
  · exact Below.heap_setCell _ _ _ _ e
theorem own_conv {w : World} {b : Nat} {v : Value} {xs : List UInt8} (h : w.ownsRow b 5 1 v xs.length (Lib.byteCells xs)) (hx : xs ≠ []) : (convert 45 9 v).run Try.prog w = .ok (.string (Slot.strB xs)) w := by
  rcases h.2 with ⟨_, h2⟩ | ⟨g, cap, cur, rfl, _, h3, _, _, _, h7⟩
  · exact absurd (List.eq_nil_of_length_eq_zero h2) hx
  · refine run_convert_bytes_back (P := Try.prog) w 45 9 5 ⟨g, 0, none⟩ cap xs Try.underlying45 Try.underlying5 Try.underlying9 ?_
    intro j hj
    have e : (⟨g, 0, none⟩ : Addr).add j = ⟨g, j, none⟩ := by simp [Addr.add]; try omega
    rw [e, cell_of_row w g j cur _ _ h3]
    rw [Nat.mul_one] at h7
    have h8 : (cur.toList.take xs.length)[j]? = (Lib.byteCells xs)[j]? := by rw [h7]
    rw [List.getElem?_take, if_pos hj] at h8
    rw [← Array.getElem?_toList, h8]
    simp [Lib.byteCells, List.getElem?_eq_getElem hj]

/-- the first k parts' bytes -/
def preL (p : Pg) : Nat → List UInt8
  | 0 => []
  | 1 => be 1 p.kind
  | 2 => be 1 p.kind ++ be 1 p.level
  | 3 => be 1 p.kind ++ be 1 p.level ++ be 4 p.id
  | 4 => be 1 p.kind ++ be 1 p.level ++ be 4 p.id ++ be 8 p.lsn
  | 5 => be 1 p.kind ++ be 1 p.level ++ be 4 p.id ++ be 8 p.lsn ++ be 4 p.next
  | _ => be 1 p.kind ++ be 1 p.level ++ be 4 p.id ++ be 8 p.lsn ++ be 4 p.next ++ be 2 0
theorem preL_all (p : Pg) : preL p 6 = headL p := by
  have e : be 2 0 = [0, 0] := by decide
  show be 1 p.kind ++ be 1 p.level ++ be 4 p.id ++ be 8 p.lsn ++ be 4 p.next ++ be 2 0 = _
  rw [e]
  unfold headL
  simp only [List.append_assoc]

section
variable {w W : World} {hd : Nat} {p : Pg} {v : Value}
theorem Wr.fns {W0 : World} {B g : Nat} {xs : List UInt8} (h : Wr W0 W B xs) (hf : Fns W g hd) {k : Nat} {cs : Array Value} {t : TypeId} {u : Value} (hh : W.heap[hd]? = some (.cells cs t (0, 0))) (hu : cs[k]? = some u) :
    Wr W0 (W.setCell ⟨hd, k, none⟩ u) B xs ∧ Fns (W.setCell ⟨hd, k, none⟩ u) g hd := by
  have b := below_same hh hu W.heap.size
  exact ⟨h.later b, (b.block g (Array.getElem?_eq_some_iff.1 hf).1).trans hf⟩
/-- a part of a head is written -/
theorem wpart {B g : Nat} {xs : List UInt8} (hh : w.heap[hd]? = some (.cells (pgC p v) 50 (0, 0))) (hB : hd < B) (h : Wr w W B xs) (hf : Fns W g hd) (n m : Nat) (h1 : 1 ≤ m) (h8 : m ≤ 8) (hn : n < 256 ^ m) (h64 : n < 18446744073709551616) (hx : xs.length ≤ 100000) :
    Calls Try.prog 41 (#[.int .u64 (n : Int), .int .i64 (m : Int)] ++ #[.pointer (some ⟨B, 0, none⟩)]) W fun e w' => e = .returned (.int .u64 (n : Int)) ∧ (Wr w w' B (xs ++ be m n) ∧ Fns w' g hd ∧ w'.heap[hd]? = some (.cells (pgC p v) 50 (0, 0))) := by
  refine (wr1_any h n m h1 h8 hn h64 hx).mono ?_
  rintro e w' ⟨rfl, k1, k2⟩
  exact ⟨rfl, k1, k2 g _ _ _ hf (by decide) (by decide), (k1.below.block hd hB).trans hh⟩
theorem wp0 {B : Nat} (hw : p.wf) (hh : w.heap[hd]? = some (.cells (pgC p v) 50 (0, 0))) (hB : hd < B) : Part 62 hd (.func (.func 41) #[] #[.pointer (some ⟨B, 0, none⟩)]) (fun W => Wr w W B (preL p 0)) (fun W => Wr w W B (preL p 1)) := by
  intro W g h hf
  have hc := (h.below.block hd hB).trans hh
  refine (kind_any (n := p.kind) (m := p.kind) (R := fun w' => Wr w w' B (preL p 0 ++ be 1 p.kind) ∧ Fns w' g hd ∧ w'.heap[hd]? = some (.cells (pgC p v) 50 (0, 0))) enters_write (by rw [cell_of_row _ _ _ _ _ _ hc]; rfl) hw.kind (by have := hw.kind; omega) (wpart hh hB h hf p.kind 1 (by omega) (by omega) (by have := hw.kind; omega) (by have := hw.kind; omega) (by simp [preL])) ?_).mono ?_
  · rintro w' ⟨_, _, k3⟩
    exact ⟨⟨_, by rw [cell_of_row _ _ _ _ _ _ k3]; rfl⟩, frozen_of_row _ _ _ _ _ k3⟩
  · rintro e w' ⟨rfl, w1, ⟨k1, k2, k3⟩, rfl⟩
    have e : ((p.kind : Int) % 256) = (p.kind : Int) := by have := hw.kind; omega
    rw [e]
    have := k1.fns k2 (k := 0) k3 (u := .int .u8 (p.kind : Int)) rfl
    exact ⟨rfl, this.1, this.2⟩
theorem wp1 {B : Nat} (hw : p.wf) (hh : w.heap[hd]? = some (.cells (pgC p v) 50 (0, 0))) (hB : hd < B) : Part 63 hd (.func (.func 41) #[] #[.pointer (some ⟨B, 0, none⟩)]) (fun W => Wr w W B (preL p 1)) (fun W => Wr w W B (preL p 2)) := by
  intro W g h hf
  have hc := (h.below.block hd hB).trans hh
  refine (level_any (n := p.level) (m := p.level) (R := fun w' => Wr w w' B (preL p 1 ++ be 1 p.level) ∧ Fns w' g hd ∧ w'.heap[hd]? = some (.cells (pgC p v) 50 (0, 0))) enters_write (by rw [cell_of_row _ _ _ _ _ _ hc]; rfl) hw.level (by have := hw.level; omega) (wpart hh hB h hf p.level 1 (by omega) (by omega) (by have := hw.level; omega) (by have := hw.level; omega) (by simp [preL, be_length])) ?_).mono ?_
  · rintro w' ⟨_, _, k3⟩
    exact ⟨⟨_, by rw [cell_of_row _ _ _ _ _ _ k3]; rfl⟩, frozen_of_row _ _ _ _ _ k3⟩
  · rintro e w' ⟨rfl, w1, ⟨k1, k2, k3⟩, rfl⟩
    have e : ((p.level : Int) % 256) = (p.level : Int) := by have := hw.level; omega
    rw [e]
    have := k1.fns k2 (k := 1) k3 (u := .int .u8 (p.level : Int)) rfl
    exact ⟨rfl, this.1, this.2⟩
theorem wp2 {B : Nat} (hw : p.wf) (hh : w.heap[hd]? = some (.cells (pgC p v) 50 (0, 0))) (hB : hd < B) : Part 64 hd (.func (.func 41) #[] #[.pointer (some ⟨B, 0, none⟩)]) (fun W => Wr w W B (preL p 2)) (fun W => Wr w W B (preL p 3)) := by
  intro W g h hf
  have hc := (h.below.block hd hB).trans hh
  refine (id_any (n := p.id) (m := p.id) (R := fun w' => Wr w w' B (preL p 2 ++ be 4 p.id) ∧ Fns w' g hd ∧ w'.heap[hd]? = some (.cells (pgC p v) 50 (0, 0))) enters_write (by rw [cell_of_row _ _ _ _ _ _ hc]; rfl) hw.id (by have := hw.id; omega) (wpart hh hB h hf p.id 4 (by omega) (by omega) (by have := hw.id; omega) (by have := hw.id; omega) (by simp [preL, be_length])) ?_).mono ?_
  · rintro w' ⟨_, _, k3⟩
    exact ⟨⟨_, by rw [cell_of_row _ _ _ _ _ _ k3]; rfl⟩, frozen_of_row _ _ _ _ _ k3⟩
  · rintro e w' ⟨rfl, w1, ⟨k1, k2, k3⟩, rfl⟩
    have e : ((p.id : Int) % 4294967296) = (p.id : Int) := by have := hw.id; omega
    rw [e]
    have := k1.fns k2 (k := 2) k3 (u := .int .u32 (p.id : Int)) rfl
    exact ⟨rfl, this.1, this.2⟩
theorem wp3 {B : Nat} (hw : p.wf) (hh : w.heap[hd]? = some (.cells (pgC p v) 50 (0, 0))) (hB : hd < B) : Part 65 hd (.func (.func 41) #[] #[.pointer (some ⟨B, 0, none⟩)]) (fun W => Wr w W B (preL p 3)) (fun W => Wr w W B (preL p 4)) := by
  intro W g h hf
  have hc := (h.below.block hd hB).trans hh
  refine (lsn_any (n := p.lsn) (m := p.lsn) (R := fun w' => Wr w w' B (preL p 3 ++ be 8 p.lsn) ∧ Fns w' g hd ∧ w'.heap[hd]? = some (.cells (pgC p v) 50 (0, 0))) enters_write (by rw [cell_of_row _ _ _ _ _ _ hc]; rfl) hw.lsn (by have := hw.lsn; omega) (wpart hh hB h hf p.lsn 8 (by omega) (by omega) (by have := hw.lsn; omega) (by have := hw.lsn; omega) (by simp [preL, be_length])) ?_).mono ?_
  · rintro w' ⟨_, _, k3⟩
    exact ⟨⟨_, by rw [cell_of_row _ _ _ _ _ _ k3]; rfl⟩, frozen_of_row _ _ _ _ _ k3⟩
  · rintro e w' ⟨rfl, w1, ⟨k1, k2, k3⟩, rfl⟩
    have := k1.fns k2 (k := 3) k3 (u := .int .u64 (p.lsn : Int)) rfl
    exact ⟨rfl, this.1, this.2⟩
theorem wp4 {B : Nat} (hw : p.wf) (hh : w.heap[hd]? = some (.cells (pgC p v) 50 (0, 0))) (hB : hd < B) : Part 66 hd (.func (.func 41) #[] #[.pointer (some ⟨B, 0, none⟩)]) (fun W => Wr w W B (preL p 4)) (fun W => Wr w W B (preL p 5)) := by
  intro W g h hf
  have hc := (h.below.block hd hB).trans hh
  refine (next_any (n := p.next) (m := p.next) (R := fun w' => Wr w w' B (preL p 4 ++ be 4 p.next) ∧ Fns w' g hd ∧ w'.heap[hd]? = some (.cells (pgC p v) 50 (0, 0))) enters_write (by rw [cell_of_row _ _ _ _ _ _ hc]; rfl) hw.next (by have := hw.next; omega) (wpart hh hB h hf p.next 4 (by omega) (by omega) (by have := hw.next; omega) (by have := hw.next; omega) (by simp [preL, be_length])) ?_).mono ?_
  · rintro w' ⟨_, _, k3⟩
    exact ⟨⟨_, by rw [cell_of_row _ _ _ _ _ _ k3]; rfl⟩, frozen_of_row _ _ _ _ _ k3⟩
  · rintro e w' ⟨rfl, w1, ⟨k1, k2, k3⟩, rfl⟩
    have e : ((p.next : Int) % 4294967296) = (p.next : Int) := by have := hw.next; omega
    rw [e]
    have := k1.fns k2 (k := 4) k3 (u := .int .u32 (p.next : Int)) rfl
    exact ⟨rfl, this.1, this.2⟩
theorem wp5 {B : Nat} (hh : w.heap[hd]? = some (.cells (pgC p v) 50 (0, 0))) (hB : hd < B) : Part 67 hd (.func (.func 41) #[] #[.pointer (some ⟨B, 0, none⟩)]) (fun W => Wr w W B (preL p 5)) (fun W => Wr w W B (preL p 6)) := by
  intro W g h hf
  refine (spare_any (m := 0) (R := fun w' => Wr w w' B (preL p 5 ++ be 2 0) ∧ Fns w' g hd ∧ w'.heap[hd]? = some (.cells (pgC p v) 50 (0, 0))) enters_write (wpart hh hB h hf 0 2 (by omega) (by omega) (by omega) (by omega) (by simp [preL, be_length]))).mono ?_
  rintro e w' ⟨rfl, k1, k2, k3⟩
  exact ⟨rfl, k1, k2⟩
end

theorem Wr.start (w : World) : Wr w (w.alloc (.cells #[.slice none 0 0] 45)) w.heap.size [] :=
  ⟨⟨_, heap_alloc_new w _, World.ownsRow_nil _ _ _ _⟩, (Below.refl _ _).alloc (Nat.le_refl _) _⟩

set_option maxRecDepth 100000 in
set_option maxHeartbeats 1000000 in
theorem write_any {w : World} {hd : Nat} {p : Pg} {v : Value} (hw : p.wf) (hh : w.heap[hd]? = some (.cells (pgC p v) 50 (0, 0))) :
    Calls Try.prog 23 #[.pointer (some ⟨hd, 0, none⟩)] w fun e w' => e = .returned (.string (Slot.strB (headL p))) ∧ Below w.heap.size w w' := by
  have hB : hd < w.heap.size := (Array.getElem?_eq_some_iff.1 hh).1
  have T := Lib.hid (through_any (hd := hd) (c := .func (.func 41) #[] #[.pointer (some ⟨w.heap.size, 0, none⟩)]) (w := w.alloc (.cells #[.slice none 0 0] 45)) (fun k W => Wr w W w.heap.size (preL p k)) (Wr.start w) (fun o h => h.later ((Below.refl _ _).alloc (Nat.le_refl _) o)) (wp0 hw hh hB) (wp1 hw hh hB) (wp2 hw hh hB) (wp3 hw hh hB) (wp4 hw hh hB) (wp5 hh hB))
  simp only [preL_all] at T
  have hl := headL_len p
  obtain ⟨hL, hhL⟩ : ∃ L, L = headL p := ⟨_, rfl⟩
  rw [← hhL] at T hl ⊢
  have HL := Lib.hid hl
  clear hh hB hhL hl
  go_enter Try.func23, Try.ntmps23
  go_wp2_with fail
  refine T.out.mono ?_
  rintro e w1 ⟨rfl, h⟩
  obtain ⟨u, e1, e2⟩ := h.ex
  have c1 : w1.cell? ⟨w.heap.size, 0, none⟩ = some u := by rw [cell_of_row _ _ _ _ _ _ e1]; rfl
  have cv := own_conv e2 (by intro e; have hl := HL.out; rw [e] at hl; simp at hl)
  obtain ⟨ad, cap, rfl⟩ := own_shape e2
  have HB := Lib.hid h.below
  clear e1 e2 h
  go_wp2_with fail
  trace_state
  go_ret
  exact ⟨rfl, HB.out⟩

end Go.Proofs.Ytmandeohbiagfaa.Page

namespace Go.Proofs.Ytmandeohbiagfaa.Page
open Go.RowKit
attribute [local go_sem ↓] Go.wp_at_zero Go.wp_at_succ

set_option maxRecDepth 100000 in
set_option maxHeartbeats 1000000 in
theorem rd1_any {w : World} {b A : Nat} {s : ByteArray} {a m : Nat} (hS : w.heap[b]? = some (.cells #[.string s] 9 (0, 0))) (hA : w.heap[A]? = some (.cells #[.int .i64 (a : Int)] 3 (0, 0))) (n : Int) (h1 : 1 ≤ m) (h8 : m ≤ 8) (h : a + m ≤ s.size) (hs : s.size ≤ 100000) :
    Calls Try.prog 58 #[.int .u64 n, .int .i64 (m : Int), .pointer (some ⟨b, 0, none⟩), .pointer (some ⟨A, 0, none⟩)] w fun e w' => e = .returned (.int .u64 (numAt s a m : Int)) ∧ w' = w.setCell ⟨A, 0, none⟩ (.int .i64 ((a : Int) + (m : Int))) := by
  have G := Lib.hid (get_yes s a m w (by omega) h1 h8 h)
  have c0 : w.cell? ⟨b, 0, none⟩ = some (.string s) := by rw [cell_of_row _ _ _ _ _ _ hS]; rfl
  have c1 : w.cell? ⟨A, 0, none⟩ = some (.int .i64 (a : Int)) := by rw [cell_of_row _ _ _ _ _ _ hA]; rfl
  have fz : w.frozen? ⟨A, 0, none⟩ = false := frozen_of_row _ _ _ _ _ hA
  have b1 : a ≤ 100000 := by omega
  clear hS hA h
  go_enter Try.func58, Try.ntmps58
  go_wp2_with fail
  refine G.out.mono ?_
  rintro e w1 ⟨rfl, rfl⟩
  go_wp2_with fail
  go_ret
  exact ⟨rfl, rfl⟩

/-- a head that is being read: its cells, the text, the place -/
structure Rd (W0 w : World) (hd b A : Nat) (s : ByteArray) (cs : Array Value) (a : Nat) : Prop where
  head : w.heap[hd]? = some (.cells cs 50 (0, 0))
  str : w.heap[b]? = some (.cells #[.string s] 9 (0, 0))
  pos : w.heap[A]? = some (.cells #[.int .i64 (a : Int)] 3 (0, 0))
  touch : Touch (fun x => x = hd ∨ x = A) W0 w
theorem Rd.later {W0 w w' : World} {hd b A : Nat} {s : ByteArray} {cs : Array Value} {a : Nat} (h : Rd W0 w hd b A s cs a) (t : Below w.heap.size w w') : Rd W0 w' hd b A s cs a :=
  ⟨(t.block hd (Array.getElem?_eq_some_iff.1 h.head).1).trans h.head, (t.block b (Array.getElem?_eq_some_iff.1 h.str).1).trans h.str, (t.block A (Array.getElem?_eq_some_iff.1 h.pos).1).trans h.pos, h.touch.trans' (Touch.ofNew t)⟩
theorem block_ne {w : World} {x y : Nat} {cs ds : Array Value} {t u : TypeId} {f g : Nat × Nat} (h : w.heap[x]? = some (.cells cs t f)) (k : w.heap[y]? = some (.cells ds u g)) (hn : t ≠ u) : x ≠ y := by
  rintro rfl
  rw [h] at k
  simp at k
  exact hn k.2.1
/-- the place is another one -/
theorem Rd.step {W0 w : World} {hd b A g : Nat} {s : ByteArray} {cs : Array Value} {a m : Nat} (h : Rd W0 w hd b A s cs a) (hf : Fns w g hd) : Rd W0 (w.setCell ⟨A, 0, none⟩ (.int .i64 ((a : Int) + (m : Int)))) hd b A s cs (a + m) ∧ Fns (w.setCell ⟨A, 0, none⟩ (.int .i64 ((a : Int) + (m : Int)))) g hd := by
  have n1 : hd ≠ A := block_ne h.head h.pos (by decide)
  have n2 : b ≠ A := block_ne h.str h.pos (by decide)
  have n3 : g ≠ A := block_ne hf h.pos (by decide)
  refine ⟨⟨?_, ?_, ?_, h.touch.trans' ((Touch.refl _ w).setCell (x := ⟨A, 0, none⟩) (.inr rfl) _)⟩, ?_⟩
  · rw [heap_setCell_other _ _ _ _ n1]; exact h.head
  · rw [heap_setCell_other _ _ _ _ n2]; exact h.str
  · rw [heap_setCell_same w A 0 _ _ _ h.pos]
    have e : ((a : Int) + (m : Int)) = ((a + m : Nat) : Int) := by simp
    rw [e]; rfl
  · unfold Fns
    rw [heap_setCell_other _ _ _ _ n3]; exact hf
/-- a part is another one -/
theorem Rd.set {W0 w : World} {hd b A g : Nat} {s : ByteArray} {cs : Array Value} {a : Nat} (h : Rd W0 w hd b A s cs a) (hf : Fns w g hd) (k : Nat) (u : Value) : Rd W0 (w.setCell ⟨hd, k, none⟩ u) hd b A s (cs.setIfInBounds k u) a ∧ Fns (w.setCell ⟨hd, k, none⟩ u) g hd := by
  have n1 : A ≠ hd := block_ne h.pos h.head (by decide)
  have n2 : b ≠ hd := block_ne h.str h.head (by decide)
  have n3 : g ≠ hd := block_ne hf h.head (by decide)
  refine ⟨⟨heap_setCell_same w hd k _ _ _ h.head, ?_, ?_, h.touch.trans' ((Touch.refl _ w).setCell (x := ⟨hd, k, none⟩) (.inl rfl) _)⟩, ?_⟩
  · rw [heap_setCell_other _ _ _ _ n2]; exact h.str
  · rw [heap_setCell_other _ _ _ _ n1]; exact h.pos
  · unfold Fns
    rw [heap_setCell_other _ _ _ _ n3]; exact hf
theorem rpart {W0 W : World} {hd b A g : Nat} {s : ByteArray} {cs : Array Value} {a : Nat} (h : Rd W0 W hd b A s cs a) (hf : Fns W g hd) (n : Int) (m : Nat) (h1 : 1 ≤ m) (h8 : m ≤ 8) (hl : a + m ≤ s.size) (hs : s.size ≤ 100000) :
    Calls Try.prog 58 (#[.int .u64 n, .int .i64 (m : Int)] ++ #[.pointer (some ⟨b, 0, none⟩), .pointer (some ⟨A, 0, none⟩)]) W fun e w' => e = .returned (.int .u64 (numAt s a m : Int)) ∧ (Rd W0 w' hd b A s cs (a + m) ∧ Fns w' g hd) := by
  refine (rd1_any h.str h.pos n h1 h8 hl hs).mono ?_
  rintro e w' ⟨rfl, rfl⟩
  exact ⟨rfl, h.step hf⟩

/-- what is known behind k parts -/
def hdP (s : ByteArray) : Nat → Pg
  | 0 => ⟨0, 0, 0, 0, 0, []⟩
  | 1 => ⟨numAt s 0 1, 0, 0, 0, 0, []⟩
  | 2 => ⟨numAt s 0 1, numAt s 1 1, 0, 0, 0, []⟩
  | 3 => ⟨numAt s 0 1, numAt s 1 1, numAt s 2 4, 0, 0, []⟩
  | 4 => ⟨numAt s 0 1, numAt s 1 1, numAt s 2 4, numAt s 6 8, 0, []⟩
  | _ => ⟨numAt s 0 1, numAt s 1 1, numAt s 2 4, numAt s 6 8, numAt s 14 4, []⟩

section
variable {w : World} {hd : Nat} {s : ByteArray} {v : Value}
theorem rp0 {b A : Nat} (hs : s.size = 20) : Part 62 hd (.func (.func 58) #[] #[.pointer (some ⟨b, 0, none⟩), .pointer (some ⟨A, 0, none⟩)]) (fun W => Rd w W hd b A s (pgC (hdP s 0) v) 0) (fun W => Rd w W hd b A s (pgC (hdP s 1) v) 1) := by
  intro W g h hf
  have hlt := numAt_lt s 0 1
  refine (kind_any (n := 0) (m := numAt s 0 1) (R := fun w' => Rd w w' hd b A s (pgC (hdP s 0) v) 1 ∧ Fns w' g hd) enters_read (by rw [cell_of_row _ _ _ _ _ _ h.head]; rfl) (by omega) (by omega) (rpart h hf 0 1 (by omega) (by omega) (by omega) (by omega)) ?_).mono ?_
  · rintro w' ⟨k1, _⟩
    exact ⟨⟨_, by rw [cell_of_row _ _ _ _ _ _ k1.head]; rfl⟩, frozen_of_row _ _ _ _ _ k1.head⟩
  · rintro e w' ⟨rfl, w1, ⟨k1, k2⟩, rfl⟩
    have e : ((numAt s 0 1 : Int) % 256) = (numAt s 0 1 : Int) := by have := numAt_lt s 0 1; omega
    rw [e]
    have := k1.set k2 0 (.int .u8 (numAt s 0 1 : Int))
    exact ⟨rfl, this.1, this.2⟩
theorem rp1 {b A : Nat} (hs : s.size = 20) : Part 63 hd (.func (.func 58) #[] #[.pointer (some ⟨b, 0, none⟩), .pointer (some ⟨A, 0, none⟩)]) (fun W => Rd w W hd b A s (pgC (hdP s 1) v) 1) (fun W => Rd w W hd b A s (pgC (hdP s 2) v) 2) := by
  intro W g h hf
  have hlt := numAt_lt s 1 1
  refine (level_any (n := 0) (m := numAt s 1 1) (R := fun w' => Rd w w' hd b A s (pgC (hdP s 1) v) 2 ∧ Fns w' g hd) enters_read (by rw [cell_of_row _ _ _ _ _ _ h.head]; rfl) (by omega) (by omega) (rpart h hf 0 1 (by omega) (by omega) (by omega) (by omega)) ?_).mono ?_
  · rintro w' ⟨k1, _⟩
    exact ⟨⟨_, by rw [cell_of_row _ _ _ _ _ _ k1.head]; rfl⟩, frozen_of_row _ _ _ _ _ k1.head⟩
  · rintro e w' ⟨rfl, w1, ⟨k1, k2⟩, rfl⟩
    have e : ((numAt s 1 1 : Int) % 256) = (numAt s 1 1 : Int) := by have := numAt_lt s 1 1; omega
    rw [e]
    have := k1.set k2 1 (.int .u8 (numAt s 1 1 : Int))
    exact ⟨rfl, this.1, this.2⟩
theorem rp2 {b A : Nat} (hs : s.size = 20) : Part 64 hd (.func (.func 58) #[] #[.pointer (some ⟨b, 0, none⟩), .pointer (some ⟨A, 0, none⟩)]) (fun W => Rd w W hd b A s (pgC (hdP s 2) v) 2) (fun W => Rd w W hd b A s (pgC (hdP s 3) v) 6) := by
  intro W g h hf
  have hlt := numAt_lt s 2 4
  refine (id_any (n := 0) (m := numAt s 2 4) (R := fun w' => Rd w w' hd b A s (pgC (hdP s 2) v) 6 ∧ Fns w' g hd) enters_read (by rw [cell_of_row _ _ _ _ _ _ h.head]; rfl) (by omega) (by omega) (rpart h hf 0 4 (by omega) (by omega) (by omega) (by omega)) ?_).mono ?_
  · rintro w' ⟨k1, _⟩
    exact ⟨⟨_, by rw [cell_of_row _ _ _ _ _ _ k1.head]; rfl⟩, frozen_of_row _ _ _ _ _ k1.head⟩
  · rintro e w' ⟨rfl, w1, ⟨k1, k2⟩, rfl⟩
    have e : ((numAt s 2 4 : Int) % 4294967296) = (numAt s 2 4 : Int) := by have := numAt_lt s 2 4; omega
    rw [e]
    have := k1.set k2 2 (.int .u32 (numAt s 2 4 : Int))
    exact ⟨rfl, this.1, this.2⟩
theorem rp3 {b A : Nat} (hs : s.size = 20) : Part 65 hd (.func (.func 58) #[] #[.pointer (some ⟨b, 0, none⟩), .pointer (some ⟨A, 0, none⟩)]) (fun W => Rd w W hd b A s (pgC (hdP s 3) v) 6) (fun W => Rd w W hd b A s (pgC (hdP s 4) v) 14) := by
  intro W g h hf
  have hlt := numAt_lt s 6 8
  refine (lsn_any (n := 0) (m := numAt s 6 8) (R := fun w' => Rd w w' hd b A s (pgC (hdP s 3) v) 14 ∧ Fns w' g hd) enters_read (by rw [cell_of_row _ _ _ _ _ _ h.head]; rfl) (by omega) (by omega) (rpart h hf 0 8 (by omega) (by omega) (by omega) (by omega)) ?_).mono ?_
  · rintro w' ⟨k1, _⟩
    exact ⟨⟨_, by rw [cell_of_row _ _ _ _ _ _ k1.head]; rfl⟩, frozen_of_row _ _ _ _ _ k1.head⟩
  · rintro e w' ⟨rfl, w1, ⟨k1, k2⟩, rfl⟩
    have := k1.set k2 3 (.int .u64 (numAt s 6 8 : Int))
    exact ⟨rfl, this.1, this.2⟩
theorem rp4 {b A : Nat} (hs : s.size = 20) : Part 66 hd (.func (.func 58) #[] #[.pointer (some ⟨b, 0, none⟩), .pointer (some ⟨A, 0, none⟩)]) (fun W => Rd w W hd b A s (pgC (hdP s 4) v) 14) (fun W => Rd w W hd b A s (pgC (hdP s 5) v) 18) := by
  intro W g h hf
  have hlt := numAt_lt s 14 4
  refine (next_any (n := 0) (m := numAt s 14 4) (R := fun w' => Rd w w' hd b A s (pgC (hdP s 4) v) 18 ∧ Fns w' g hd) enters_read (by rw [cell_of_row _ _ _ _ _ _ h.head]; rfl) (by omega) (by omega) (rpart h hf 0 4 (by omega) (by omega) (by omega) (by omega)) ?_).mono ?_
  · rintro w' ⟨k1, _⟩
    exact ⟨⟨_, by rw [cell_of_row _ _ _ _ _ _ k1.head]; rfl⟩, frozen_of_row _ _ _ _ _ k1.head⟩
  · rintro e w' ⟨rfl, w1, ⟨k1, k2⟩, rfl⟩
    have e : ((numAt s 14 4 : Int) % 4294967296) = (numAt s 14 4 : Int) := by have := numAt_lt s 14 4; omega
    rw [e]
    have := k1.set k2 4 (.int .u32 (numAt s 14 4 : Int))
    exact ⟨rfl, this.1, this.2⟩
theorem rp5 {b A : Nat} (hs : s.size = 20) : Part 67 hd (.func (.func 58) #[] #[.pointer (some ⟨b, 0, none⟩), .pointer (some ⟨A, 0, none⟩)]) (fun W => Rd w W hd b A s (pgC (hdP s 5) v) 18) (fun W => Rd w W hd b A s (pgC (hdP s 6) v) 20) := by
  intro W g h hf
  refine (spare_any (m := numAt s 18 2) (R := fun w' => Rd w w' hd b A s (pgC (hdP s 5) v) 20 ∧ Fns w' g hd) enters_read (rpart h hf 0 2 (by omega) (by omega) (by omega) (by omega))).mono ?_
  rintro e w' ⟨rfl, k1, k2⟩
  exact ⟨rfl, k1, k2⟩
end

theorem Rd.start {w : World} {hd : Nat} {cs : Array Value} (s : ByteArray) (hh : w.heap[hd]? = some (.cells cs 50 (0, 0))) : Rd w ((w.alloc (.cells #[.string s] 9)).alloc (.cells #[.int .i64 0] 3)) hd w.heap.size (w.heap.size + 1) s cs 0 := by
  have hb := below2 w (.cells #[.string s] 9) (.cells #[.int .i64 0] 3)
  exact ⟨(hb.block hd (Array.getElem?_eq_some_iff.1 hh).1).trans hh, heap_alloc2_old _ _ _, heap_alloc2_new _ _ _, Touch.ofNew hb⟩

set_option maxRecDepth 100000 in
set_option maxHeartbeats 1000000 in
/-- the head is read: all else is as it was -/
theorem read_any {w : World} {hd : Nat} {v : Value} {s : ByteArray} (hs : s.size = 20) (hh : w.heap[hd]? = some (.cells (pgC (hdP s 0) v) 50 (0, 0))) :
    Calls Try.prog 35 #[.pointer (some ⟨hd, 0, none⟩), .string s] w fun e w' => e = .returned (.tuple #[]) ∧ (w'.heap[hd]? = some (.cells (pgC (hdP s 6) v) 50 (0, 0)) ∧ Touch (fun x => x = hd) w w') := by
  have hlt := (Array.getElem?_eq_some_iff.1 hh).1
  have T := through_any (hd := hd) (c := .func (.func 58) #[] #[.pointer (some ⟨w.heap.size, 0, none⟩), .pointer (some ⟨w.heap.size + 1, 0, none⟩)]) (w := (w.alloc (.cells #[.string s] 9)).alloc (.cells #[.int .i64 0] 3))
    (fun k W => Rd w W hd w.heap.size (w.heap.size + 1) s (pgC (hdP s k) v) (match k with | 0 => 0 | 1 => 1 | 2 => 2 | 3 => 6 | 4 => 14 | 5 => 18 | _ => 20)) (Rd.start s hh) (fun o h => h.later ((Below.refl _ _).alloc (Nat.le_refl _) o)) (rp0 hs) (rp1 hs) (rp2 hs) (rp3 hs) (rp4 hs) (rp5 hs)
  have TT := Lib.hid T
  have HLT := Lib.hid hlt
  clear hh hlt T
  go_enter Try.func35, Try.ntmps35
  go_wp2_with fail
  refine TT.out.mono ?_
  rintro e w1 ⟨rfl, h⟩
  have H1 := Lib.hid h.head
  have H2 := Lib.hid (show Touch (fun x => x = hd) w w1 from ⟨h.touch.os, h.touch.tape, h.touch.output, h.touch.size, fun x hx hn => h.touch.block x hx (by rintro (e | e); exact hn e; omega)⟩)
  clear h
  go_wp2_with fail
  go_end0
  exact ⟨rfl, H1.out, H2.out⟩

end Go.Proofs.Ytmandeohbiagfaa.Page

namespace Go.Proofs.Ytmandeohbiagfaa.Page
open Go.RowKit Slot
attribute [local go_sem ↓] Go.wp_at_zero Go.wp_at_succ

theorem ar_step {l : List ByteArray} {k : Nat} (hk : k < l.length) (hu : used l ≤ 484) : k ≤ (arA l k).dir.length ∧ (nth l k).size + 4 ≤ (arA l k).free := by
  have h1 := used_take hk
  have h2 := used_take_le l (k + 1)
  obtain ⟨a1, a2, a3, a4, a5, a6⟩ := arA_all l k (by omega) (by omega)
  omega

set_option maxRecDepth 100000 in
set_option maxHeartbeats 1000000 in
theorem areaOf_any {w : World} {v : Value} {l : List ByteArray} (h : Rows w v l) (hu : used l ≤ 484) : Calls Try.prog 24 #[v] w fun e w' => e = .returned (.string (strB (imgA (arA l l.length)))) ∧ Below w.heap.size w w' := by
  obtain ⟨ad, c, rfl, _⟩ := id h
  have n0 : Calls Try.prog 43 #[.int .i64 488] w _ := new_any 488 w (by omega) (by omega)
  have N0 := Lib.hid n0
  have hlen := used_len l
  have H := Lib.hid h
  obtain ⟨n, hn⟩ : ∃ n, n = l.length := ⟨_, rfl⟩
  have N := Lib.hid hn
  have hn2 : n ≤ 1000000 := by omega
  have U := Lib.hid hu
  rw [← hn]
  clear h hu hlen hn n0
  go_enter Try.func24, Try.ntmps24
  go_wp2_with fail
  refine N0.out.mono ?_
  rintro e w1 ⟨rfl, h1⟩
  have S := Lib.hid (St.new h1)
  clear h1 N0
  generalize w.heap.size + 1 = p at *
  obtain ⟨g, hg⟩ : ∃ g, g = w.heap.size := ⟨_, rfl⟩
  have S0 : Hid (St w w1 p g 488 (arA l 0)) := by rw [hg]; exact S
  clear S hg
  go_wp2_with fail
  go_loopw [13] (fun i wr => ∃ k : Nat, k ≤ n ∧ i = .int .i64 k ∧ St w wr p g 488 (arA l k)) (fun i _ => n - (intOf i).toNat)
  case atStart => exact ⟨0, by omega, by go_num, S0.out⟩
  case round =>
    obtain ⟨k, hk, rfl, hst⟩ := hrel
    clear S0
    have HS := Lib.hid hst
    clear hst
    by_cases hlt : k < n
    · have hlt2 : k < l.length := by rw [← N.out]; exact hlt
      have hr := H.out.later HS.out.below
      obtain ⟨b, o, rfl, hb, hc⟩ := hr.at (k := k) hlt2
      obtain ⟨q1, q2⟩ := ar_step hlt2 U.out
      have P := Lib.hid (put_room HS.out.area k (nth l k) q1 q2)
      obtain ⟨s, hs⟩ : ∃ s, s = nth l k := ⟨_, rfl⟩
      have SE := Lib.hid hs
      rw [← hs] at hc P
      clear hr hs q1 q2
      go_wp2_with fail
      refine P.out.mono ?_
      rintro e w2 ⟨rfl, h2⟩
      have HS2 : Hid (St w w2 p g 488 (arA l (k + 1))) := by
        have := HS.out.op h2
        rw [SE.out] at this
        exact Lib.hid this
      clear h2 P
      go_wp2_with fail
      go_roundw
      case rel => exact ⟨k + 1, by omega, by go_num, HS2.out⟩
      case measure => simp [intOf]; omega
    · obtain rfl : k = n := by omega
      have b := Lib.hid (bytes_is HS.out.area)
      go_wp2_with fail
      refine b.out.mono ?_
      rintro e w2 ⟨rfl, rfl⟩
      go_wp2_with fail
      go_ret
      exact ⟨rfl, HS.out.below⟩

end Go.Proofs.Ytmandeohbiagfaa.Page

namespace Go.Proofs.Ytmandeohbiagfaa.Sum
open Go.RowKit

theorem ret_int {k : IntKind} {a b : Int} (h : a = b) : Ending.returned (.int k a) = .returned (.int k b) := by rw [h]
theorem ret_bool {a b : Bool} (h : a = b) : Ending.returned (.bool a) = .returned (.bool b) := by rw [h]

theorem half_bits (n : Nat) (hn : n < 4294967296) : bits .xor .u32 ((n : Int) / 2) 2197175160 = ((n / 2 ^^^ 2197175160 : Nat) : Int) := by
  have e : ((n : Int) / 2) = ((n / 2 : Nat) : Int) := by omega
  rw [e]
  exact u32_xor_nat _ 2197175160 (by omega) (by omega)

theorem half_any (n : Nat) (w : World) (hn : n < 4294967296) :
    Calls Try.prog 93 #[.int .u32 (n : Int)] w fun e w' => e = .returned (.int .u32 (hf n : Nat)) ∧ w = w' := by
  by_cases h : n % 2 = 1
  · have h1 : ((n : Int) % 2 == 1) = true := by simp; omega
    have e := Lib.hid (show hf n = n / 2 ^^^ 2197175160 by unfold hf; rw [if_pos h])
    clear h
    go_enter Try.func93, Try.ntmps93
    go_wp2
    go_ret
    exact ⟨ret_int (by rw [e.out, half_bits n hn]), rfl⟩
  · have h1 : ((n : Int) % 2 == 1) = false := by simp; omega
    have e := Lib.hid (show hf n = n / 2 by unfold hf; rw [if_neg h])
    clear h
    go_enter Try.func93, Try.ntmps93
    go_wp2
    go_ret
    exact ⟨ret_int (by rw [e.out]; omega), rfl⟩

/-- an array of 256 numbers -/
def rowOf (f : Nat → Nat) : Array Value := ((List.range 256).map fun j => Value.int .u32 (f j : Nat)).toArray
/-- the table -/
def tabC : Array Value := rowOf (H 8)
/-- a new array's cells -/
def zeroC : Array Value := rowOf fun _ => 0

theorem rowOf_size (f : Nat → Nat) : (rowOf f).size = 256 := by simp [rowOf]
theorem rowOf_get (f : Nat → Nat) {j : Nat} (h : j < 256) : (rowOf f)[j]? = some (.int .u32 (f j : Nat)) := by simp [rowOf, h]
theorem rowOf_set (f : Nat → Nat) (i v : Nat) : (rowOf f).setIfInBounds i (.int .u32 (v : Nat)) = rowOf (fun j => if j = i then v else f j) := by
  apply Array.ext_getElem?
  intro j
  rw [Array.getElem?_setIfInBounds]
  by_cases hj : j < 256
  · rw [rowOf_get _ hj, rowOf_get _ hj, rowOf_size]
    by_cases e : i = j
    · subst e; simp [hj]
    · have e' : ¬ j = i := fun h => e h.symm
      simp [e, e']
  · have h1 : (rowOf f)[j]? = none := by rw [Array.getElem?_eq_none]; rw [rowOf_size]; omega
    have h2 : (rowOf (fun j => if j = i then v else f j))[j]? = none := by rw [Array.getElem?_eq_none]; rw [rowOf_size]; omega
    rw [h1, h2, rowOf_size]
    split
    · rw [if_neg (by omega)]
    · rfl
theorem rowOf_ext {f g : Nat → Nat} (h : ∀ j, j < 256 → f j = g j) : rowOf f = rowOf g := by
  unfold rowOf
  congr 1
  apply List.map_congr_left
  intro j hj
  rw [h j (by simpa using hj)]
theorem rowOf_one (f : Nat → Nat) : (rowOf f).all (·.oneCell') = true := by
  apply Array.all_eq_true_iff_forall_mem.2
  intro v hv
  simp only [rowOf, List.mem_toArray, List.mem_map] at hv
  obtain ⟨j, _, rfl⟩ := hv
  rfl

theorem zeroTAB (w : World) : (zeroValue 104).run Try.prog w = .ok (.agg zeroC) w := by kernel_rfl
theorem infoTAB : (Try.prog.info? 104).map (·.size) = some 256 := by kernel_rfl
theorem sizeTAB : (Try.prog.info? 104).map (·.size) = some tabC.size := by rw [infoTAB, tabC, rowOf_size]
theorem zero_tab : zeroC.size = tabC.size := by rw [tabC, zeroC, rowOf_size, rowOf_size]
theorem tab_one : tabC.all (·.oneCell') = true := rowOf_one _
theorem allocTAB (w : World) : (Instr.alloc 104 true (.tuple #[])).run Try.prog w = .ok (.pointer (some ⟨w.heap.size, 0, none⟩)) (w.alloc (.cells zeroC 104 (0, 0))) := by
  simp only [Instr.alloc, Sem.run_bind, zeroTAB]
  rfl

/-- the two arrays of the table's call: the result's, as it was made, and the one that is filled -/
def TabW (h : Nat) (w wr : World) (f : Nat → Nat) : Prop :=
  wr.heap[h]? = some (.cells zeroC 104 (0, 0)) ∧ wr.heap[h + 1]? = some (.cells (rowOf f) 104 (0, 0)) ∧ Below h w wr
theorem TabW.start (w : World) : TabW w.heap.size w ((w.alloc (.cells zeroC 104 (0, 0))).alloc (.cells zeroC 104 (0, 0))) fun _ => 0 :=
  ⟨heap_alloc2_old _ _ _, heap_alloc2_new _ _ _, ((Below.refl _ _).alloc (Nat.le_refl _) _).alloc (by simp) _⟩
theorem TabW.cell {h : Nat} {w wr : World} {f : Nat → Nat} (hh : TabW h w wr f) {j : Nat} (hj : j < 256) : wr.cell? ⟨h + 1, j, none⟩ = some (.int .u32 (f j : Nat)) := by
  rw [cell_of_row wr _ j _ _ _ hh.2.1, rowOf_get _ hj]
theorem TabW.free {h : Nat} {w wr : World} {f : Nat → Nat} (hh : TabW h w wr f) (j : Nat) : wr.frozen? ⟨h + 1, j, none⟩ = false :=
  frozen_of_row wr _ j _ _ hh.2.1
theorem TabW.set {h : Nat} {w wr : World} {f : Nat → Nat} (hh : TabW h w wr f) (i v : Nat) :
    TabW h w (wr.setCell ⟨h + 1, i, none⟩ (.int .u32 (v : Nat))) (fun j => if j = i then v else f j) := by
  refine ⟨?_, ?_, hh.2.2.setCell (Nat.le_succ _) _⟩
  · rw [heap_setCell_other _ _ _ _ (by simp)]; exact hh.1
  · rw [heap_setCell_same wr _ i _ _ _ hh.2.1, rowOf_set]

/-- what is known of the table's numbers: at the multiples of twice the bit, and, up to m, of the bit -/
def TabF (k m : Nat) (f : Nat → Nat) : Prop := ∀ j, j < 256 → j % (2 * (128 / 2 ^ k)) = 0 ∨ (j % (128 / 2 ^ k) = 0 ∧ j < 2 * (128 / 2 ^ k) * m) → f j = H 8 j

theorem tab_step : ∀ k, k < 8 → ∀ m, m < 128 → 2 * (128 / 2 ^ k) * m < 256 →
    2 * (128 / 2 ^ k) * m + 2 * (128 / 2 ^ k) ≤ 256 ∧ H 8 (2 * (128 / 2 ^ k) * m + 128 / 2 ^ k) = H 8 (2 * (128 / 2 ^ k) * m) ^^^ H (k + 1) 1 := by decide +kernel

theorem bit_pos : ∀ k, k < 8 → 1 ≤ 128 / 2 ^ k := by decide

theorem TabF.step {k m : Nat} {f : Nat → Nat} (hf : TabF k m f) (hk : k < 8) (hm : m < 128) (hl : 2 * (128 / 2 ^ k) * m < 256) :
    TabF k (m + 1) (fun j => if j = 2 * (128 / 2 ^ k) * m + 128 / 2 ^ k then f (2 * (128 / 2 ^ k) * m) ^^^ H (k + 1) 1 else f j) := by
  obtain ⟨h1, h2⟩ := tab_step k hk m hm hl
  have hb := bit_pos k hk
  intro j hj hc
  have h3 : f (2 * (128 / 2 ^ k) * m) = H 8 (2 * (128 / 2 ^ k) * m) := hf _ (by omega) (Or.inl (by simp))
  have ha : 2 * (128 / 2 ^ k) * (m + 1) = 2 * (128 / 2 ^ k) * m + 2 * (128 / 2 ^ k) := by rw [Nat.mul_add, Nat.mul_one]
  show (if j = _ then _ else _) = _
  split
  · rename_i e
    rw [e, h2, h3]
  · rename_i e
    apply hf j hj
    rcases hc with hc | ⟨hc, hlt⟩
    · exact Or.inl hc
    · rw [ha] at hlt
      by_cases hj2 : j < 2 * (128 / 2 ^ k) * m
      · exact Or.inr ⟨hc, hj2⟩
      · left
        generalize 128 / 2 ^ k = B at *
        have e1 : j = B * (j / B) := by have := Nat.div_add_mod j B; omega
        have e2 : 2 * B * m = B * (2 * m) := by rw [Nat.mul_comm 2 B, Nat.mul_assoc]
        have e3 : B * (2 * m) ≤ B * (j / B) := by omega
        have e4 : B * (j / B) < B * (2 * m + 2) := by rw [Nat.mul_add]; omega
        have e5 : 2 * m ≤ j / B := Nat.le_of_mul_le_mul_left e3 hb
        have e6 : j / B < 2 * m + 2 := Nat.lt_of_mul_lt_mul_left e4
        have e7 : j / B = 2 * m ∨ j / B = 2 * m + 1 := by omega
        rcases e7 with e7 | e7
        · rw [e1, e7, ← e2]; simp
        · exfalso
          rw [e7, Nat.mul_add, ← e2] at e1
          omega
theorem TabF.next {k m : Nat} {f : Nat → Nat} (hf : TabF k m f) (_hk : k < 8) (hm : 256 ≤ 2 * (128 / 2 ^ k) * m) : k < 7 → TabF (k + 1) 0 f := by
  intro h7 j hj hc
  have e : ∀ k, k < 7 → 2 * (128 / 2 ^ (k + 1)) = 128 / 2 ^ k := by decide
  rw [e k h7] at hc
  apply hf j hj
  right
  rcases hc with hc | ⟨_, hc⟩
  · exact ⟨hc, by omega⟩
  · rw [Nat.mul_zero] at hc; omega
theorem TabF.last {m : Nat} {f : Nat → Nat} (hf : TabF 7 m f) (hm : 256 ≤ 2 * (128 / 2 ^ 7) * m) : rowOf f = tabC := by
  apply rowOf_ext
  intro j hj
  have e : 128 / 2 ^ 7 = 1 := by decide
  apply hf j hj
  rw [e] at hm ⊢
  exact Or.inr ⟨Nat.mod_one j, by omega⟩

/-- what holds ahead of each bit's round -/
def Outer (h : Nat) (w wr : World) (k : Nat) : Prop := ∃ f, TabW h w wr f ∧ ((k < 8 ∧ TabF k 0 f) ∨ (8 ≤ k ∧ rowOf f = tabC))
theorem Outer.start (w : World) : Outer w.heap.size w ((w.alloc (.cells zeroC 104 (0, 0))).alloc (.cells zeroC 104 (0, 0))) 0 := by
  refine ⟨_, TabW.start w, Or.inl ⟨by omega, ?_⟩⟩
  intro j hj hc
  have e : 2 * (128 / 2 ^ 0) = 256 := by decide
  rw [e] at hc
  rcases hc with hc | ⟨_, hc⟩
  · have : j = 0 := by omega
    subst this; decide
  · omega

set_option maxRecDepth 100000 in
set_option maxHeartbeats 1000000 in
theorem table_any (w : World) : Calls Try.prog 90 #[] w fun e w' => e = .returned (.agg tabC) ∧ Below w.heap.size w w' := by
  have z := zeroTAB
  have al := allocTAB
  have h0 := Lib.hid (Outer.start w)
  go_enter Try.func90, Try.ntmps90
  go_wp2
  go_loopw [2, 3] (fun c b wr => ∃ k B C : Nat, k ≤ 8 ∧ B = 128 / 2 ^ k ∧ C = H k 1 ∧ b = .int .i64 B ∧ c = .int .u32 C ∧ Outer w.heap.size w wr k) (fun _ b _ => (intOf b).toNat)
  case atStart => exact ⟨0, 128, 1, by omega, by decide, by decide, by go_num, by go_num, h0.out⟩
  case round =>
    obtain ⟨k, B, C, hk, hB, hC, rfl, rfl, f0, ht0, hf0⟩ := hrel
    clear h0
    by_cases h8 : k < 8
    · have hb1 := bit_pos k h8
      have hC0 : C < 4294967296 := by rw [hC]; exact H_lt (by omega)
      obtain ⟨D, hD⟩ : ∃ D, D = hf C := ⟨_, rfl⟩
      have hD0 : D < 4294967296 := by rw [hD]; exact hf_lt hC0
      have hcc : D = H (k + 1) 1 := by rw [hD, hC, H_succ]
      have hfk : TabF k 0 f0 := by rcases hf0 with h | h; exact h.2; omega
      have hb2 : B ≤ 128 := by rw [hB]; exact Nat.div_le_self _ _
      have HC := half_any C wr hC0
      rw [← hD] at HC
      have K0 := Lib.hid HC
      have K1 := Lib.hid ht0
      have K2 := Lib.hid hfk
      have K3 := Lib.hid hcc
      have K4 := Lib.hid hB
      rw [← hB] at hb1
      clear hf0 hfk hcc ht0 hB hC hD HC
      go_wp2_with fail
      refine (K0.out).mono ?_
      rintro e w1 ⟨rfl, rfl⟩
      go_wp2_with fail
      go_loopw [4] (fun a wi => ∃ m A : Nat, A = 2 * B * m ∧ A ≤ 256 ∧ a = .int .i64 A ∧ ∃ f, TabW w.heap.size w wi f ∧ TabF k m f) (fun a _ => 256 - (intOf a).toNat)
      case atStart => exact ⟨0, 0, by omega, by omega, by go_num, f0, K1.out, K2.out⟩
      case round =>
        obtain ⟨m, A, hA, hA2, rfl, f, ht, hf⟩ := hrel
        by_cases hlt : A < 256
        · have hm : m < 128 := by
            have e1 : 2 * 1 * m ≤ 2 * B * m := Nat.mul_le_mul_right m (by omega)
            omega
          have hlt2 : 2 * (128 / 2 ^ k) * m < 256 := by rw [← K4.out, ← hA]; exact hlt
          have hst := (tab_step k h8 m hm hlt2).1
          rw [← K4.out, ← hA] at hst
          have hfs := hf.step h8 hm hlt2
          rw [← K4.out, ← hA, ← K3.out] at hfs
          have g1 := ht.cell (j := A) hlt
          have g2 := ht.cell (j := A + B) (by omega)
          have g3 := ht.free (A + B)
          have g4 := ht.set (A + B) (f A ^^^ D)
          have hfa : f A < 4294967296 := by
            have e := hf A hlt (Or.inl (by rw [← K4.out, hA]; simp))
            rw [e]; exact H_lt (by omega)
          have gx := u32_xor_nat (f A) D hfa hD0
          have G1 := Lib.hid g4
          have G2 := Lib.hid hfs
          have G3 := Lib.hid hA
          clear hfs g4 hA ht hf hfa hlt2
          go_wp2_with fail
          go_roundw
          case rel => exact ⟨m + 1, A + 2 * B, by rw [G3.out, Nat.mul_add, Nat.mul_one], by omega, by go_num, _, G1.out, G2.out⟩
          case measure => simp [intOf]; omega
        · have G1 := Lib.hid ht
          have G2 := Lib.hid hf
          have G3 := Lib.hid hA
          clear hA ht hf
          go_wp2_with fail
          go_roundw
          case rel =>
            have hm : 256 ≤ 2 * (128 / 2 ^ k) * m := by rw [← K4.out, ← G3.out]; omega
            refine ⟨k + 1, B / 2, D, by omega, ?_, K3.out, by go_num, by go_num, f, G1.out, ?_⟩
            · rw [K4.out, Nat.pow_succ, Nat.div_div_eq_div_mul]
            · by_cases h7 : k < 7
              · exact Or.inl ⟨Nat.succ_lt_succ h7, G2.out.next h8 hm h7⟩
              · obtain rfl : k = 7 := by omega
                exact Or.inr ⟨Nat.le_refl _, G2.out.last hm⟩
          case measure => simp [intOf]; omega
    · obtain rfl : k = 8 := by omega
      have hB0 : B ≤ 0 := by rw [hB]; decide
      have hff : rowOf f0 = tabC := by rcases hf0 with h | h; omega; exact h.2
      have t1 := ht0.1
      have t2 := ht0.2.1
      have t3 := ht0.2.2
      rw [hff] at t2
      have K1 := Lib.hid t1
      have K2 := Lib.hid t2
      have K3 := Lib.hid t3
      clear hf0 hC hB ht0 t1 t2 t3 hff h8 hk
      go_wp2_with (first | (refine wpList_load_row rfl 104 _ rfl (w.heap.size + 1) rfl 104 tabC (0, 0) _ K2.out Try.underlying104 rfl sizeTAB ?_) | (refine wpList_store_row rfl 104 _ _ rfl w.heap.size tabC rfl rfl 104 zeroC K1.out sizeTAB zero_tab tab_one ?_))
      refine bodyPost_ret (v := .agg tabC) (results_cell_row Try.results90 _ _ w.heap.size 104 tabC (0, 0) _ rfl (setRow_heap _ _ _ _ _ _ K1.out) Try.underlying104 rfl sizeTAB) rfl ⟨rfl, below_setRow K3.out (Nat.le_refl _) _⟩

end Go.Proofs.Ytmandeohbiagfaa.Sum

namespace Go.Proofs.Ytmandeohbiagfaa.Sum
open Go.RowKit

theorem flip_bits (c : Nat) (h : c < 4294967296) : bits .xor .u32 IntKind.u32.max (c : Int) = ((4294967295 ^^^ c : Nat) : Int) := u32_xor_nat 4294967295 c (by omega) h

theorem take_snoc (s : ByteArray) (k : Nat) (h : k < s.size) : s.data.toList.take (k + 1) = s.data.toList.take k ++ [s[k]] := by
  rw [List.take_succ_eq_append_getElem (by simpa using h)]; rfl
theorem run_snoc (c : Nat) (s : ByteArray) (k : Nat) (h : k < s.size) : run c (s.data.toList.take (k + 1)) = H 8 (run c (s.data.toList.take k) ^^^ s[k].toNat) := by
  rw [take_snoc s k h, run_append]; rfl
theorem take_all (s : ByteArray) : s.data.toList.take s.size = s.data.toList := List.take_of_length_le (by simp)
theorem byte_lt (s : ByteArray) (k : Nat) (h : k < s.size) : s[k].toNat < 256 := s[k].toNat_lt

set_option maxRecDepth 100000 in
set_option maxHeartbeats 1000000 in
theorem more_any (c : Nat) (s : ByteArray) (w : World) (hc : c < 4294967296) (hs : s.size ≤ maxLen) :
    Calls Try.prog 61 #[.int .u32 (c : Int), .string s] w fun e w' => e = .returned (.int .u32 (more c s.data.toList : Nat)) ∧ Below w.heap.size w w' := by
  unfold maxLen at hs
  obtain ⟨d, hd⟩ : ∃ d, d = 4294967295 ^^^ c := ⟨_, rfl⟩
  have hd0 : d < 4294967296 := by rw [hd]; exact flip_lt hc
  have hf := flip_bits c hc
  rw [← hd] at hf
  have D := Lib.hid hd
  have z := zeroTAB
  have al := allocTAB
  clear hd
  go_enter Try.func61, Try.ntmps61
  go_wp2_with fail
  refine (table_any w).mono ?_
  rintro e w1 ⟨rfl, b1⟩
  go_wp2_with (refine wpList_store_row rfl 104 _ _ rfl w1.heap.size tabC rfl rfl 104 zeroC (heap_alloc_new w1 _) sizeTAB zero_tab tab_one ?_)
  have hW : ∀ N, N < 256 → ((w1.alloc (.cells zeroC 104)).setRow w1.heap.size tabC).cell? ⟨w1.heap.size, N, none⟩ = some (.int .u32 (H 8 N : Nat)) := by
    intro N hN
    rw [cell_setRow_same _ _ _ _ _ _ _ (heap_alloc_new w1 _), tabC, rowOf_get _ hN]
  have hB : Below w.heap.size w ((w1.alloc (.cells zeroC 104)).setRow w1.heap.size tabC) := below_setRow (b1.alloc b1.size _) b1.size _
  generalize (w1.alloc (.cells zeroC 104)).setRow w1.heap.size tabC = W at *
  generalize w1.heap.size = g at *
  have K1 := Lib.hid hW
  have K2 := Lib.hid hB
  clear hW hB b1 hf
  go_loop [0, 12] (fun x i => ∃ k m : Nat, k ≤ s.size ∧ m < 4294967296 ∧ i = .int .i64 k ∧ x = .int .u32 m ∧ m = run d (s.data.toList.take k)) (fun _ i => s.size - (intOf i).toNat)
  case atStart => exact ⟨0, d, by omega, hd0, by go_num, rfl, by rw [List.take_zero]; rfl⟩
  case round =>
    obtain ⟨k, m, hk, hm, rfl, rfl, hr⟩ := hrel
    by_cases hlt : k < s.size
    · have hb := byte_lt s k hlt
      have hx : bits .xor .u8 ((m : Int) % 256) (s[k].toNat : Int) = ((m % 256 ^^^ s[k].toNat : Nat) : Int) := by
        have := u8_xor_nat (m % 256) s[k].toNat (by omega) hb
        rw [← this]; congr 1
      obtain ⟨N, hN⟩ : ∃ N, N = m % 256 ^^^ s[k].toNat := ⟨_, rfl⟩
      have hN0 : N < 256 := by rw [hN]; exact Nat.xor_lt_two_pow (n := 8) (by omega) (by omega)
      have hT0 : H 8 N < 4294967296 := H_lt (by omega)
      have hcell := K1.out N hN0
      obtain ⟨T, hT⟩ : ∃ T, T = H 8 N := ⟨_, rfl⟩
      rw [← hT] at hcell hT0
      rw [← hN] at hx
      have hy : bits .xor .u32 ((m : Int) / 256) (T : Int) = ((m / 256 ^^^ T : Nat) : Int) := by
        have := u32_xor_nat (m / 256) T (by omega) hT0
        rw [← this]; congr 1
      have hz : m / 256 ^^^ T = run d (s.data.toList.take (k + 1)) := by rw [run_snoc _ _ _ hlt, ← hr, step_table m _ hb, hT, hN]
      have hz0 : m / 256 ^^^ T < 4294967296 := by rw [hz]; exact run_lt hd0 _
      have Z := Lib.hid hz
      clear hz hr hT hN
      go_wp2_with fail
      go_round
      case rel => exact ⟨k + 1, _, by omega, hz0, by go_num, rfl, Z.out⟩
      case measure => simp [intOf]; omega
    · obtain rfl : k = s.size := by omega
      have hf2 := flip_bits m hm
      have hz : 4294967295 ^^^ m = more c s.data.toList := by unfold more; rw [hr, take_all, D.out]
      obtain ⟨q, hq⟩ : ∃ q, q = 4294967295 ^^^ m := ⟨_, rfl⟩
      rw [← hq] at hf2 hz
      have Z := Lib.hid hz
      clear hr hz hq
      go_wp2_with fail
      go_ret
      exact ⟨ret_int (by rw [Z.out]), K2.out⟩

theorem of_any (s : ByteArray) (w : World) (hs : s.size ≤ maxLen) :
    Calls Try.prog 39 #[.string s] w fun e w' => e = .returned (.int .u32 (sumOf s.data.toList : Nat)) ∧ Below w.heap.size w w' := by
  have h := more_any 0 s w (by omega) hs
  go_enter Try.func39, Try.ntmps39
  go_wp2_with fail
  refine h.mono ?_
  rintro e w1 ⟨rfl, b1⟩
  go_wp2_with fail
  go_ret
  exact ⟨rfl, b1⟩

end Go.Proofs.Ytmandeohbiagfaa.Sum

namespace Go.Proofs.Ytmandeohbiagfaa.Sum
open Go.RowKit

theorem flip_bits2 (c : Nat) (h : c < 4294967296) : bits .xor .u32 (c : Int) 4294967295 = ((4294967295 ^^^ c : Nat) : Int) := by
  rw [Nat.xor_comm]
  exact u32_xor_nat c 4294967295 h (by omega)

set_option maxRecDepth 100000 in
set_option maxHeartbeats 1000000 in
theorem rmore_any (c : Nat) (s : ByteArray) (w : World) (hc : c < 4294967296) (hs : s.size ≤ maxLen) :
    Calls Try.prog 80 #[.int .u32 (c : Int), .string s] w fun e w' => e = .returned (.int .u32 (more c s.data.toList : Nat)) ∧ w = w' := by
  unfold maxLen at hs
  obtain ⟨d, hd⟩ : ∃ d, d = 4294967295 ^^^ c := ⟨_, rfl⟩
  have hd0 : d < 4294967296 := by rw [hd]; exact flip_lt hc
  have hf := flip_bits2 c hc
  rw [← hd] at hf
  have D := Lib.hid hd
  clear hd
  go_enter Try.func80, Try.ntmps80
  go_wp2_with fail
  clear hf
  go_loop [0, 5] (fun x i => ∃ k m : Nat, k ≤ s.size ∧ m < 4294967296 ∧ i = .int .i64 k ∧ x = .int .u32 m ∧ m = run d (s.data.toList.take k)) (fun _ i => s.size - (intOf i).toNat)
  case atStart => exact ⟨0, d, by omega, hd0, by go_num, rfl, by rw [List.take_zero]; rfl⟩
  case round =>
    obtain ⟨k, m, hk, hm, rfl, rfl, hr⟩ := hrel
    by_cases hlt : k < s.size
    · have hb := byte_lt s k hlt
      have hx := u32_xor_nat m s[k].toNat hm (by omega)
      obtain ⟨n0, hn0⟩ : ∃ n0, n0 = m ^^^ s[k].toNat := ⟨_, rfl⟩
      have hn : n0 < 4294967296 := by rw [hn0]; exact Nat.xor_lt_two_pow (n := 32) (by omega) (by omega)
      rw [← hn0] at hx
      have hz : H 8 n0 = run d (s.data.toList.take (k + 1)) := by rw [run_snoc _ _ _ hlt, ← hr, hn0]
      have Z := Lib.hid hz
      clear hz hr hn0
      go_wp2_with fail
      clear hx
      go_loop [0, 6] (fun x i => ∃ j n : Nat, j ≤ 8 ∧ n < 4294967296 ∧ i = .int .i64 j ∧ x = .int .u32 n ∧ n = H j n0) (fun _ i => 8 - (intOf i).toNat)
      case atStart => exact ⟨0, n0, by omega, hn, by go_num, rfl, rfl⟩
      case round =>
        obtain ⟨j, n, hj, hnn, rfl, rfl, hr⟩ := hrel
        by_cases hj8 : j < 8
        · have hq : hf n = H (j + 1) n0 := by rw [H_succ, ← hr]
          have hl := hf_lt hnn
          by_cases h : n % 2 = 1
          · have h1 : ((n : Int) % 2 == 1) = true := by simp; omega
            have e := Lib.hid (show hf n = n / 2 ^^^ 2197175160 by unfold hf; rw [if_pos h])
            have hx := half_bits n hnn
            rw [← e.out] at hx
            have Q := Lib.hid hq
            clear h hq hr
            go_wp2_with fail
            go_round
            case rel => exact ⟨j + 1, _, by omega, hl, by go_num, rfl, Q.out⟩
            case measure => simp [intOf]; omega
          · have h1 : ((n : Int) % 2 == 1) = false := by simp; omega
            have e := Lib.hid (show hf n = n / 2 by unfold hf; rw [if_neg h])
            have Q := Lib.hid hq
            clear h hq hr
            go_wp2_with fail
            go_round
            case rel => exact ⟨j + 1, _, by omega, hl, by go_num, by rw [e.out]; go_num, Q.out⟩
            case measure => simp [intOf]; omega
        · obtain rfl : j = 8 := by omega
          have Q := Lib.hid hr
          clear hr
          go_wp2_with fail
          go_round
          case rel => exact ⟨k + 1, _, by omega, hnn, by go_num, rfl, by rw [Q.out, Z.out]⟩
          case measure => simp [intOf]; omega
    · obtain rfl : k = s.size := by omega
      have hf2 := flip_bits2 m hm
      have hz : 4294967295 ^^^ m = more c s.data.toList := by unfold more; rw [hr, take_all, D.out]
      obtain ⟨q, hq⟩ : ∃ q, q = 4294967295 ^^^ m := ⟨_, rfl⟩
      rw [← hq] at hf2 hz
      have Z := Lib.hid hz
      clear hr hz hq
      go_wp2_with fail
      go_ret
      exact ⟨ret_int (by rw [Z.out]), rfl⟩

theorem rof_any (s : ByteArray) (w : World) (hs : s.size ≤ maxLen) :
    Calls Try.prog 51 #[.string s] w fun e w' => e = .returned (.int .u32 (sumOf s.data.toList : Nat)) ∧ w = w' := by
  have h := rmore_any 0 s w (by omega) hs
  go_enter Try.func51, Try.ntmps51
  go_wp2_with fail
  refine h.mono ?_
  rintro e w1 ⟨rfl, rfl⟩
  go_wp2_with fail
  go_ret
  exact ⟨rfl, rfl⟩

end Go.Proofs.Ytmandeohbiagfaa.Sum

namespace Go.Proofs.Ytmandeohbiagfaa.Sum
open Go.RowKit

theorem val_append (l m : List UInt8) : val (l ++ m) = val l + 2 ^ (8 * l.length) * val m := by
  induction l with
  | nil => simp [val]
  | cons b l ih =>
    have e : 8 * (b :: l).length = 8 + 8 * l.length := by simp; omega
    have e2 : val ((b :: l) ++ m) = b.toNat + 256 * val (l ++ m) := rfl
    have e3 : val (b :: l) = b.toNat + 256 * val l := rfl
    have e4 : (2 : Nat) ^ 8 = 256 := by decide
    rw [e2, e3, ih, e, Nat.pow_add, e4, Nat.mul_add, Nat.mul_assoc, Nat.add_assoc]
theorem val_snoc (s : ByteArray) (k : Nat) (h : k < s.size) : val (s.data.toList.take (k + 1)) = val (s.data.toList.take k) + 2 ^ (8 * k) * s[k].toNat := by
  have e : (s.data.toList.take k).length = k := by simp; omega
  rw [take_snoc s k h, val_append, e]
  simp [val]

theorem or_step (m b k : Nat) (hk : k < 4) (hm : m < 2 ^ (8 * k)) (hb : b < 256) :
    bits .or .u32 (m : Int) ((b : Int) * 2 ^ (8 * k) % 4294967296) = ((m + 2 ^ (8 * k) * b : Nat) : Int) ∧ m + 2 ^ (8 * k) * b < 2 ^ (8 * (k + 1)) ∧ 2 ^ (8 * (k + 1)) ≤ 4294967296 := by
  have h1 : 2 ^ (8 * (k + 1)) ≤ 2 ^ 32 := Nat.pow_le_pow_right (by omega) (by omega)
  have e1 : 2 ^ (8 * (k + 1)) = 2 ^ (8 * k) * 256 := by rw [Nat.mul_add, Nat.pow_add]
  have e2 : 2 ^ (8 * k) * b + 2 ^ (8 * k) ≤ 2 ^ (8 * k) * 256 := by
    have := Nat.mul_le_mul_left (2 ^ (8 * k)) (show b + 1 ≤ 256 by omega)
    rw [Nat.mul_add, Nat.mul_one] at this
    exact this
  have e3 : ((b : Int) * 2 ^ (8 * k) % 4294967296) = ((2 ^ (8 * k) * b : Nat) : Int) := by
    have h : ((2 ^ (8 * k) * b : Nat) : Int) = (b : Int) * 2 ^ (8 * k) := by rw [Nat.mul_comm]; simp
    rw [← h]
    omega
  refine ⟨?_, by omega, by omega⟩
  rw [e3, u32_or_nat _ _ (by omega) (by omega), Nat.or_comm, ← Nat.two_pow_add_eq_or_of_lt hm, Nat.add_comm]

set_option maxRecDepth 100000 in
set_option maxHeartbeats 1000000 in
theorem tail_any (s : ByteArray) (w : World) (hs : s.size = 4) :
    Calls Try.prog 53 #[.string s] w fun e w' => e = .returned (.int .u32 (val s.data.toList : Nat)) ∧ w = w' := by
  have hs1 : 4 ≤ s.size := by omega
  have hs2 : s.size ≤ 4 := by omega
  have S := Lib.hid hs
  clear hs
  go_enter Try.func53, Try.ntmps53
  go_wp2_with fail
  go_loop [3, 5] (fun x i => ∃ k m : Nat, k ≤ 4 ∧ m < 2 ^ (8 * k) ∧ i = .int .i64 k ∧ x = .int .u32 m ∧ m = val (s.data.toList.take k)) (fun _ i => 4 - (intOf i).toNat)
  case atStart => exact ⟨0, 0, by omega, by omega, by go_num, by go_num, rfl⟩
  case round =>
    obtain ⟨k, m, hk, hm, rfl, rfl, hr⟩ := hrel
    by_cases hlt : k < 4
    · have hb := byte_lt s k (by omega)
      obtain ⟨o1, o2, o3⟩ := or_step m _ k hlt hm hb
      have hv := val_snoc s k (by omega)
      rw [← hr] at hv
      obtain ⟨n, hn⟩ : ∃ n, n = m + 2 ^ (8 * k) * s[k].toNat := ⟨_, rfl⟩
      rw [← hn] at o1 o2 hv
      have M := Lib.hid o2
      have Q := Lib.hid hv
      clear hm hr hn o2 o3 hv
      go_wp2_with fail
      go_round
      case rel => exact ⟨k + 1, n, by omega, M.out, by go_num, rfl, Q.out.symm⟩
      case measure => simp [intOf]; omega
    · obtain rfl : k = 4 := by omega
      have e : s.data.toList.take 4 = s.data.toList := by rw [← S.out, take_all]
      rw [e] at hr
      have Q := Lib.hid hr
      clear hr e hm
      go_wp2_with fail
      go_ret
      exact ⟨ret_int (by rw [Q.out]), rfl⟩

end Go.Proofs.Ytmandeohbiagfaa.Sum

namespace Go.Proofs.Ytmandeohbiagfaa.Sum
open Go.RowKit

/-- v is a slice whose bytes are xs, in a block from B on; its spare places may be written; below B nothing has turned since W0 -/
def Buf (e : TypeId) (B : Nat) (v : Value) (xs : List UInt8) (W0 w : World) : Prop :=
  (∃ g cap cur fz, v = .slice (some ⟨g, 0, none⟩) xs.length cap ∧ B ≤ g ∧ w.heap[g]? = some (.cells cur e fz) ∧ (fz.2 ≤ xs.length ∨ cap ≤ fz.1) ∧ xs.length ≤ cap ∧ cap ≤ maxLen ∧ cur.size = cap ∧ cur.toList.take xs.length = Lib.byteCells xs) ∧
    Below B W0 w ∧ B ≤ w.heap.size

theorem Buf.below {e : TypeId} {B : Nat} {v : Value} {xs : List UInt8} {W0 w : World} (h : Buf e B v xs W0 w) : Below B W0 w := h.2.1
theorem Buf.later {e : TypeId} {B : Nat} {v : Value} {xs : List UInt8} {W0 w w' : World} (h : Buf e B v xs W0 w) (hb : Below w.heap.size w w') : Buf e B v xs W0 w' := by
  obtain ⟨⟨g, cap, cur, fz, hv, hBg, hg, rest⟩, h2, h3⟩ := h
  have hlt : g < w.heap.size := (Array.getElem?_eq_some_iff.1 hg).1
  exact ⟨⟨g, cap, cur, fz, hv, hBg, (hb.block g hlt).trans hg, rest⟩, h2.trans (hb.mono h3), Nat.le_trans h3 hb.size⟩
theorem Buf.alloc {e : TypeId} {B : Nat} {v : Value} {xs : List UInt8} {W0 w : World} (h : Buf e B v xs W0 w) (o : Obj) : Buf e B v xs W0 (w.alloc o) :=
  h.later ((Below.refl _ _).alloc (Nat.le_refl _) o)
theorem Buf.drew {e : TypeId} {B : Nat} {v : Value} {xs : List UInt8} {W0 w : World} (h : Buf e B v xs W0 w) : Buf e B v xs W0 w.drew :=
  h.later ((Below.refl _ _).drew)

theorem Buf.ofOwn {e : TypeId} {B : Nat} {v : Value} {xs : List UInt8} {W0 w : World} (h : Lib.OwnBuf B e v xs.length (Lib.byteCells xs) W0 w) (hv : v ≠ .slice none 0 0) : Buf e B v xs W0 w := by
  obtain ⟨⟨h1, h2⟩, h3, h4⟩ := h
  rcases h2 with ⟨h2, _⟩ | ⟨g, cap, cur, fz, h2, hBg, hg, hfz, hn, hcm, hcs, htk⟩
  · exact absurd h2 hv
  · refine ⟨⟨g, cap, cur, fz, h2, hBg, hg, Or.inl (by omega), hn, hcm, by omega, ?_⟩, h3, h4⟩
    rw [Nat.mul_one] at htk
    exact htk

section
variable {P : Program}

theorem Buf.out {e S T : TypeId} (hs : P.underlying T = some (.slice e)) (he : P.underlying e = some (.int .u8)) (hd : P.underlying S = some .string)
    {B : Nat} {v : Value} {xs : List UInt8} {W0 w : World} (h : Buf e B v xs W0 w) : (convert T S v).run P w = .ok (.string ⟨xs.toArray⟩) w := by
  obtain ⟨⟨g, cap, cur, fz, rfl, hBg, hg, _, hn, _, hcs, htk⟩, _⟩ := h
  refine run_convert_bytes_back (P := P) w T S e ⟨g, 0, none⟩ cap xs hs he hd ?_
  intro j hj
  have e1 : (⟨g, 0, none⟩ : Addr).add j = ⟨g, j, none⟩ := by simp [Addr.add]; try omega
  rw [e1, cell_of_row w g j cur e fz hg]
  have h1 : (cur.toList.take xs.length)[j]? = (Lib.byteCells xs)[j]? := by rw [htk]
  rw [List.getElem?_take, if_pos hj] at h1
  rw [← Array.getElem?_toList, h1]
  simp [Lib.byteCells, List.getElem?_eq_getElem hj]

theorem Buf.conv {e S T : TypeId} (hs : P.underlying S = some .string) (hd : P.underlying T = some (.slice e)) (he : P.underlying e = some (.int .u8)) (w : World) (s : ByteArray) (hl : s.size ≤ maxLen) :
    ∃ v W, (convert S T (.string s)).run P w = .ok v W ∧ Buf e w.heap.size v s.data.toList w W := by
  have hsz : s.data.toList.length = s.size := (Lib.size_eq _).symm
  have hrow : (bytesRow s (grownCap w s.size 0 e)).size = grownCap w s.size 0 e := by
    have h1 := grownCap_ge w s.size 0 e
    have h2 : s.data.size = s.size := rfl
    unfold bytesRow
    rw [Array.size_append, Array.size_map, Array.size_replicate]
    omega
  refine ⟨_, _, run_bytes_of_string w S T e s hs hd he, ⟨_, _, _, _, ?_, Nat.le_refl _, heap_alloc_new w.drew _, ?_, ?_, grownCap_le_maxLen w s.size 0 e hl, hrow, ?_⟩, ?_, ?_⟩
  · rw [hsz]
  · right; rw [hrow]; exact Nat.le_refl _
  · rw [hsz]; exact grownCap_ge w s.size 0 e
  · rw [hsz]
    unfold bytesRow
    rw [Array.toList_append, Array.toList_map]
    have e1 : s.size = (List.map (fun b : UInt8 => Value.int .u8 (b.toNat : Int)) s.data.toList).length := by rw [List.length_map, hsz]
    rw [e1, List.take_left]
    rfl
  · exact ((Below.refl _ w).drew).alloc (Nat.le_refl _) _
  · have := (((Below.refl w.heap.size w).drew).alloc (Nat.le_refl _) (.cells (bytesRow s (grownCap w s.size 0 e)) e ((bytesRow s (grownCap w s.size 0 e)).size, (bytesRow s (grownCap w s.size 0 e)).size + 1))).size
    exact this

theorem run_buf_byte {t ty e : TypeId} {i : TypeInfo} (ht : P.underlying t = some (.slice e)) (hi : P.info? e = some i) (hz : i.zero = some (.int .u8 0)) (hsize : i.size = 1) (hby : i.bytes = 1)
    {B : Nat} {v : Value} {xs : List UInt8} {W0 w0 : World} (b : UInt8) (hb : Buf e B v xs W0 w0) (hlen : xs.length + 1 ≤ 140737488355328) :
    ∃ v' w', (Builtin.append_ #[t, t] ty #[v, .slice (some ⟨w0.heap.size, 0, none⟩) 1 1]).run P (w0.alloc (.cells #[.int .u8 (b.toNat : Int)] e)) = .ok v' w' ∧ Buf e B v' (xs ++ [b]) W0 w' := by
  obtain ⟨⟨g, cap, cur, fz, rfl, hBg, hg, hfr, hn, hcm, hcs, htk⟩, hbel, hB⟩ := hb
  have hlt : g < w0.heap.size := (Array.getElem?_eq_some_iff.1 hg).1
  have hnew : (w0.alloc (.cells #[.int .u8 (b.toNat : Int)] e)).heap[w0.heap.size]? = some (.cells #[.int .u8 (b.toNat : Int)] e) := heap_alloc_new w0 _
  have hold : (w0.alloc (.cells #[.int .u8 (b.toNat : Int)] e)).heap[g]? = some (.cells cur e fz) := (Below.heap_alloc w0 _ g hlt).trans hg
  have hbel' := hbel.alloc hB (.cells #[.int .u8 (b.toNat : Int)] e)
  have hsz' : (w0.alloc (.cells #[.int .u8 (b.toNat : Int)] e)).heap.size = w0.heap.size + 1 := by show (w0.heap.push _).size = _; simp
  have hnews : ∀ (j : Nat) (u : Value), ([Value.int .u8 (b.toNat : Int)] : List Value)[j]? = some u → (w0.alloc (.cells #[.int .u8 (b.toNat : Int)] e)).cell? ((⟨w0.heap.size, 0, none⟩ : Addr).add j) = some u := by
    intro j u hj
    match j, hj with
    | 0, hj => simp at hj; subst hj; simp [Addr.add]
    | (j + 1), hj => simp at hj
  generalize w0.alloc (.cells #[.int .u8 (b.toNat : Int)] e) = w at *
  by_cases hroom : xs.length + 1 ≤ cap
  · have hr := run_append_room_cells (P := P) w t ty e i ht hi g 0 xs.length cap ⟨w0.heap.size, 0, none⟩ 1 1 [.int .u8 (b.toNat : Int)] (by rw [hsize]; rfl) hnews (by intro u hu; simp at hu; subst hu; rfl) hroom
      (by
        intro j hj
        have hj0 : j = 0 := by simpa using hj
        rw [hsize, cell_of_row w g _ cur e fz hold]
        simp; omega)
      (by
        intro j hj
        have hj0 : j = 0 := by simpa using hj
        rw [hsize]
        simp only [World.frozen?, hold]
        rw [Bool.and_eq_false_iff]
        rcases hfr with h | h
        · right; simp; omega
        · left; simp; omega)
    rw [hsize] at hr
    have e1 : w.setCells g (0 + xs.length * 1) [.int .u8 (b.toNat : Int)] = w.setRow g (cur.setIfInBounds xs.length (.int .u8 (b.toNat : Int))) := by
      rw [← setCell_eq_setRow w g _ cur e fz _ hold]
      show w.setCell _ _ = _
      congr 2
      omega
    rw [e1] at hr
    refine ⟨_, _, hr, ⟨g, cap, _, fz, ?_, hBg, setRow_heap w g cur _ e fz hold, ?_, ?_, hcm, ?_, ?_⟩, ?_, ?_⟩
    · simp
    · rcases hfr with h | h
      · left; simp; omega
      · right; exact h
    · simp; exact hroom
    · simp; exact hcs
    · have hl : (xs ++ [b]).length = xs.length + 1 := by simp
      have hx : xs.length < (cur.toList.set xs.length (.int .u8 (b.toNat : Int))).length := by simp; omega
      rw [hl, Array.toList_setIfInBounds, List.take_succ_eq_append_getElem hx, List.take_set_of_le (Nat.le_refl _), htk]
      simp [Lib.byteCells]
    · rw [← setCell_eq_setRow w g _ cur e fz _ hold]
      exact hbel'.setCell hBg _
    · rw [setRow_size]; omega
  · obtain ⟨v', w', hr, ho, hgr⟩ := run_append_arg_grows (P := P) w t ty e i (.int .u8 0) 1 1 ht hi hz hsize hby rfl (by decide) ⟨g, 0, none⟩ xs.length cap (Lib.byteCells xs)
      (by rw [Lib.byteCells_length]; omega)
      (by
        intro j u hj
        have e1 : (⟨g, 0, none⟩ : Addr).add j = ⟨g, j, none⟩ := by simp [Addr.add]; try omega
        have hj' : j < xs.length := by
          have := (List.getElem?_eq_some_iff.1 hj).1
          rwa [Lib.byteCells_length] at this
        rw [e1, cell_of_row w g j cur e fz hold, ← Array.getElem?_toList, ← hj, ← htk, List.getElem?_take, if_pos hj'])
      ⟨w0.heap.size, 0, none⟩ 1 1 [.int .u8 (b.toNat : Int)] rfl hnews (by omega) (by unfold maxLen; omega) (by omega)
    obtain ⟨o1, o2⟩ := ho
    rcases o2 with ⟨_, o2⟩ | ⟨g2, cap2, cur2, o3, o4, o5, o6, o7, o8, o9⟩
    · omega
    · refine ⟨_, _, hr, ⟨g2, cap2, cur2, (0, 0), ?_, by omega, o5, Or.inl (Nat.zero_le _), ?_, o7, by omega, ?_⟩, hbel'.grown hgr (by omega) (by intro k hk; cases hk), ?_⟩
      · rw [o3]; simp
      · simpa using o6
      · rw [Nat.mul_one] at o9
        have hl : (xs ++ [b]).length = xs.length + 1 := by simp
        rw [hl, o9]
        simp [Lib.byteCells]
      · have := hgr.size; omega

theorem wpList_buf_byte {ops : Array Oper} {rest : List Oper} {o : Oper} {a : Act} {Q : Exit → Act → World → Prop} (hgd : o.guard = none) (s x : Operand) (t : TypeId)
    (ho : o.op = .call { callee := .builtin .append, args := #[s, x], argTypes := #[t, t] })
    {e : TypeId} {i : TypeInfo} (ht : P.underlying t = some (.slice e)) (hi : P.info? e = some i) (hz : i.zero = some (.int .u8 0)) (hsize : i.size = 1) (hby : i.bytes = 1)
    {B : Nat} {v : Value} {xs : List UInt8} {W0 w0 : World} (hs : a.eval s = v) (b : UInt8) (c : Int) (hc : c = (b.toNat : Int)) (hb : Buf e B v xs W0 w0)
    (hx : a.eval x = .slice (some ⟨w0.heap.size, 0, none⟩) 1 1) (hlen : xs.length + 1 ≤ 140737488355328)
    (h : ∀ v' w', Buf e B v' (xs ++ [b]) W0 w' → wpList P ops Q rest (a.put o.dst v') w') : wpList P ops Q (o :: rest) a (w0.alloc (.cells #[.int .u8 c] e)) := by
  subst hc
  refine wpList_plain hgd fun K hK => ?_
  obtain ⟨v', w', hr, h2⟩ := run_buf_byte (P := P) (ty := o.type) ht hi hz hsize hby b hb hlen
  unfold Oper.wp execOp
  simp only [ho, resolve, invoke, builtin, Sem.run_bind, Sem.run_pure, Result.andThen_ok, List.map_toArray, List.map_cons, List.map_nil, hs, hx, hr]
  exact hK _ _ (h v' w' h2)

end
end Go.Proofs.Ytmandeohbiagfaa.Sum

namespace Go.Proofs.Ytmandeohbiagfaa.Sum
open Go.RowKit

theorem info5 : (Try.prog.info? 5).map (fun i => (i.zero, i.size, i.bytes)) = some (some (.int .u8 0), 1, 1) := by kernel_rfl

/-- byte k of a number -/
def byteAt (n k : Nat) : UInt8 := UInt8.ofNat (n / 2 ^ (8 * k) % 256)
theorem byteAt_nat (n k : Nat) : ((byteAt n k).toNat : Int) = (n : Int) / 2 ^ (8 * k) % 256 := by
  unfold byteAt
  have e : ((n / 2 ^ (8 * k) : Nat) : Int) = (n : Int) / 2 ^ (8 * k) := by simp
  rw [← e]
  simp
theorem le4_take (n k : Nat) (h : k < 4) : (le4 n).take (k + 1) = (le4 n).take k ++ [byteAt n k] := by
  have e : k = 0 ∨ k = 1 ∨ k = 2 ∨ k = 3 := by omega
  rcases e with rfl | rfl | rfl | rfl <;> simp [le4, byteAt]

set_option maxRecDepth 100000 in
set_option maxHeartbeats 1000000 in
theorem seal_any (s : ByteArray) (w : World) (hs : s.size ≤ 281474976710) :
    Calls Try.prog 22 #[.string s] w fun e w' => e = .returned (.string ⟨(sealL s.data.toList).toArray⟩) ∧ Below w.heap.size w w' := by
  obtain ⟨y, hy⟩ : ∃ y, y = sealL s.data.toList := ⟨_, rfl⟩
  rw [← hy]
  have Y := Lib.hid hy
  clear hy
  obtain ⟨i0, hi, hz0, hz1, hz2⟩ := info_parts info5
  have hmk := run_make (P := Try.prog) w 45 5 i0 (.int .u8 0) Try.underlying45 hi hz0 .i64 .i64 0 ((s.size : Int) + 4) (by omega) (by omega) (by rw [hz2]; omega) (by omega)
  have e4 : ((s.size : Int) + 4).toNat = s.size + 4 := by omega
  rw [hz1, e4, Nat.mul_one, Int.toNat_zero] at hmk
  have hof := of_any s
  have hc := sumOf_lt s.data.toList
  obtain ⟨C, hC⟩ : ∃ C, C = sumOf s.data.toList := ⟨_, rfl⟩
  rw [← hC] at hof hc
  have OF := Lib.hid hof
  have HC := Lib.hid hC
  have hown := Lib.hid (World.ownsRowF_of (World.ownsRow_made w (madeCells #[Value.int IntKind.u8 0] (s.size + 4)) (e := 5) (size := 1) (base := w.heap.size) (s.size + 4) (Nat.le_refl _) (by unfold maxLen; omega) (by rw [size_madeCells, Nat.mul_one])))
  clear hof hC
  go_enter Try.func22, Try.ntmps22
  go_wp2_with (at_builtin; refine Lib.wpList_append_own_stringF _ rfl _ _ 45 9 rfl w.heap.size 5 i0 Try.underlying45 Try.underlying9 hi hz0 hz1 hz2 _ 0 [] rfl hown.out s rfl (by unfold maxLen; omega) (by omega) (by simp) ?_)
  intro v1 w1 o1 g1 n1
  have hb : Buf 5 w.heap.size v1 s.data.toList w w1 := by
    refine Buf.ofOwn ⟨?_, ?_, ?_⟩ n1
    · have e1 : s.data.toList.length = s.size := (Lib.size_eq _).symm
      rw [e1]; exact o1
    · exact ((Below.refl _ _).alloc (Nat.le_refl _) _).grown g1 (by simp) (by intro k hk; simp [Value.ownBlock] at hk; omega)
    · have := g1.size; simp at this; omega
  have h1 := Lib.hid hb
  clear hb o1 g1 n1 hmk
  go_wp2_with fail
  refine (OF.out _ (by unfold maxLen; omega)).mono ?_
  rintro e w2 ⟨rfl, b2⟩
  have h2 := Lib.hid (h1.out.later b2)
  clear h1 b2
  go_wp2_with fail
  go_loopw [3, 15] (fun v i wr => ∃ k : Nat, k ≤ 4 ∧ i = .int .i64 k ∧ Buf 5 w.heap.size v (s.data.toList ++ (le4 C).take k) w wr) (fun _ i _ => 4 - (intOf i).toNat)
  case atStart => exact ⟨0, by omega, by go_num, by rw [List.take_zero, List.append_nil]; exact h2.out⟩
  case round =>
    obtain ⟨k, hk, rfl, hb⟩ := hrel
    clear h2
    by_cases hlt : k < 4
    · have hb2 := Lib.hid hb
      clear hb
      have hl : (s.data.toList ++ (le4 C).take k).length + 1 ≤ 140737488355328 := by
        have e1 : s.data.toList.length = s.size := (Lib.size_eq _).symm
        rw [List.length_append, List.length_take, e1]
        omega
      have ht := le4_take C k hlt
      have T := Lib.hid ht
      clear ht
      go_wp2_with (at_builtin; refine wpList_buf_byte rfl _ _ 45 rfl Try.underlying45 hi hz0 hz1 hz2 rfl (byteAt C k) _ (byteAt_nat C k).symm hb2.out rfl hl ?_)
      intro v2 w3 hb3
      first | rw [List.append_assoc, ← T.out] at hb3 | rw [← T.out] at hb3
      have hb4 := Lib.hid hb3
      clear hb3
      go_wp2_with fail
      go_roundw
      case rel => exact ⟨k + 1, by omega, by go_num, hb4.out⟩
      case measure => simp [intOf]; omega
    · obtain rfl : k = 4 := by omega
      have e5 : (le4 C).take 4 = le4 C := rfl
      rw [e5] at hb
      have e6 : s.data.toList ++ le4 C = y := by rw [Y.out]; unfold sealL; rw [HC.out]
      rw [e6] at hb
      have hout := hb.out Try.underlying45 Try.underlying5 Try.underlying9
      have hbel := Lib.hid hb.below
      clear hb e5 e6
      go_wp2_with fail
      go_ret
      exact ⟨rfl, hbel.out⟩

end Go.Proofs.Ytmandeohbiagfaa.Sum

namespace Go.Proofs.Ytmandeohbiagfaa.Sum
open Go.RowKit

theorem byteAt_low (C m k : Nat) (h : m = C / 2 ^ (8 * k)) : (m : Int) % 256 = ((byteAt C k).toNat : Int) := by
  rw [byteAt_nat, h]; simp
theorem quo_step (C m k : Nat) (h : m = C / 2 ^ (8 * k)) : m / 256 = C / 2 ^ (8 * (k + 1)) := by
  rw [h, Nat.div_div_eq_div_mul, Nat.mul_add, Nat.pow_add]

set_option maxRecDepth 100000 in
set_option maxHeartbeats 1000000 in
theorem rseal_any (s : ByteArray) (w : World) (hs : s.size ≤ 281474976710) :
    Calls Try.prog 28 #[.string s] w fun e w' => e = .returned (.string ⟨(sealL s.data.toList).toArray⟩) ∧ Below w.heap.size w w' := by
  obtain ⟨y, hy⟩ : ∃ y, y = sealL s.data.toList := ⟨_, rfl⟩
  rw [← hy]
  have Y := Lib.hid hy
  clear hy
  obtain ⟨i0, hi, hz0, hz1, hz2⟩ := info_parts info5
  have hof := rof_any s
  have hc := sumOf_lt s.data.toList
  obtain ⟨C, hC⟩ : ∃ C, C = sumOf s.data.toList := ⟨_, rfl⟩
  rw [← hC] at hof hc
  have OF := Lib.hid hof
  have HC := Lib.hid hC
  obtain ⟨v1, w1, hcv, hb⟩ := Buf.conv (P := Try.prog) Try.underlying9 Try.underlying45 Try.underlying5 w s (by unfold maxLen; omega)
  have h1 := Lib.hid hb
  clear hof hC hb
  go_enter Try.func28, Try.ntmps28
  go_wp2_with fail
  refine (OF.out _ (by unfold maxLen; omega)).mono ?_
  rintro e w2 ⟨rfl, rfl⟩
  go_wp2_with fail
  go_loopw [3, 4, 5] (fun x v i wr => ∃ k m : Nat, k ≤ 4 ∧ m < 4294967296 ∧ i = .int .i64 k ∧ x = .int .u32 m ∧ m = C / 2 ^ (8 * k) ∧ Buf 5 w.heap.size v (s.data.toList ++ (le4 C).take k) w wr) (fun _ _ i _ => 4 - (intOf i).toNat)
  case atStart => exact ⟨0, C, by omega, hc, by go_num, rfl, by simp, by rw [List.take_zero, List.append_nil]; exact h1.out⟩
  case round =>
    obtain ⟨k, m, hk, hm, rfl, rfl, hq, hb⟩ := hrel
    clear h1 hcv
    by_cases hlt : k < 4
    · have hb2 := Lib.hid hb
      have hl : (s.data.toList ++ (le4 C).take k).length + 1 ≤ 140737488355328 := by
        have e1 : s.data.toList.length = s.size := (Lib.size_eq _).symm
        rw [List.length_append, List.length_take, e1]
        omega
      have ht := le4_take C k hlt
      have T := Lib.hid ht
      have hlow := Lib.hid (byteAt_low C m k hq)
      have hq2 := Lib.hid (quo_step C m k hq)
      clear hb ht hq
      go_wp2_with (at_builtin; refine wpList_buf_byte rfl _ _ 45 rfl Try.underlying45 hi hz0 hz1 hz2 rfl (byteAt C k) _ hlow.out hb2.out rfl hl ?_)
      intro v2 w3 hb3
      first | rw [List.append_assoc, ← T.out] at hb3 | rw [← T.out] at hb3
      have hb4 := Lib.hid hb3
      clear hb3
      go_wp2_with fail
      go_roundw
      case rel => exact ⟨k + 1, m / 256, by omega, by omega, by go_num, by go_num, hq2.out, hb4.out⟩
      case measure => simp [intOf]; omega
    · obtain rfl : k = 4 := by omega
      have e5 : (le4 C).take 4 = le4 C := rfl
      rw [e5] at hb
      have e6 : s.data.toList ++ le4 C = y := by rw [Y.out]; unfold sealL; rw [HC.out]
      rw [e6] at hb
      have hout := hb.out Try.underlying45 Try.underlying5 Try.underlying9
      have hbel := Lib.hid hb.below
      clear hb e5 e6 hq
      go_wp2_with fail
      go_ret
      exact ⟨rfl, hbel.out⟩

end Go.Proofs.Ytmandeohbiagfaa.Sum
