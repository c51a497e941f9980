/- Walks: the answers that the document fixes; what none answers. -/
import Derived.Test.YtehfclgngkhcpaaDW7
namespace Go.Proofs.Ytehfclgngkhcpaa.Disk
open Go.RowKit

theorem sure_nil (w : World) : Calls Try.prog 22 #[.pointer none] w fun e w' => e = .returned (.string ⟨#[]⟩) ∧ w = w' := by
  have m := made_nil w
  go_enter Try.func22, Try.ntmps22
  go_wp2_with (go_at_call 44; refine m.mono ?_; rintro e w' ⟨rfl, rfl⟩)
  go_ret
  exact ⟨rfl, rfl⟩
theorem copy_nil (w : World) : Calls Try.prog 16 #[.pointer none] w fun e w' => e = .returned (.pointer none) ∧ w = w' := by
  have m := made_nil w
  go_enter Try.func16, Try.ntmps16
  go_wp2_with (go_at_call 44; refine m.mono ?_; rintro e w' ⟨rfl, rfl⟩)
  go_ret
  exact ⟨rfl, rfl⟩

def fullB (c : UInt8) : ByteArray := ⟨(fullL c).toArray⟩
theorem fullB_size (c : UInt8) : (fullB c).size = 128 := by show (fullL c).toArray.size = 128; rw [List.size_toArray, fullL_len]
theorem fullB_list (c : UInt8) : (fullB c).data.toList = fullL c := rfl

/-- two truths in a new block -/
theorem bools_two (w : World) (a b : Bool) : Bools (w.alloc (.cells #[.bool a, .bool b] 4)) (.slice (some ⟨w.heap.size, 0, none⟩) 2 2) [a, b] := by
  refine ⟨some ⟨w.heap.size, 0, none⟩, 2, rfl, fun j c hc => ⟨w.heap.size, 0, rfl, ?_⟩⟩
  rw [Nat.zero_add, World.cell?_alloc_new]
  match j, hc with
  | 0, hc => simp at hc; subst hc; rfl
  | 1, hc => simp at hc; subst hc; rfl

/-- one disk, made since w: it stands at p -/
structure St (w wi : World) (p : Nat) (d : D) : Prop where
  rep : Rep wi p d (Fresh w wi)
  below : Below w.heap.size w wi
theorem St.later {w a b : World} {p : Nat} {d : D} (h : St w a p d) (t : Below a.heap.size a b) : St w b p d :=
  ⟨(h.rep.later t).mono (fun c hc => ⟨hc.1, Nat.lt_of_lt_of_le hc.2 t.size⟩) (fun _ hc => hc.2), h.below.trans (t.mono h.below.size)⟩
theorem St.op {w a b : World} {p : Nat} {d d' : D} (h : St w a p d) (r : Rep b p d' (grew (Fresh w a) a b) ∧ Touch (Fresh w a) a b) : St w b p d' :=
  ⟨r.1.mono (fun c hc => by
      have := r.2.size
      have := h.below.size
      rcases hc with hc | hc
      · exact ⟨hc.1, by have := hc.2; omega⟩
      · exact ⟨by have := hc.1; omega, hc.2⟩) (fun _ hc => hc.2), h.below.trans (r.2.below h.below.size fun _ hc => hc.1)⟩
theorem St.op0 {w a b : World} {p : Nat} {d d' : D} (h : St w a p d) (r : Rep b p d' (Fresh w a) ∧ Touch (Fresh w a) a b) : St w b p d' :=
  h.op ⟨r.1.mono (fun c hc => .inl hc) (fun c hc => by
    rcases hc with hc | hc
    · exact Nat.lt_of_lt_of_le hc.2 r.2.size
    · exact hc.2), r.2⟩

/-- what is new meanwhile is not the disk's -/
theorem St.op1 {w a b c : World} {p : Nat} {d d' : D} (h : St w a p d) (t : Below a.heap.size a b) (r : Rep c p d' (Fresh w a) ∧ Touch (Fresh w a) b c) : St w c p d' := by
  have h1 := h.later t
  have t2 : Touch (Fresh w b) b c := r.2.mono fun x hx => ⟨hx.1, Nat.lt_of_lt_of_le hx.2 t.size⟩
  refine ⟨r.1.mono (fun x hx => ⟨hx.1, ?_⟩) (fun _ hx => hx.2), h1.below.trans (t2.below h1.below.size fun _ hx => hx.1)⟩
  have := hx.2
  have := t.size
  have := r.2.size
  omega

set_option maxRecDepth 100000 in
set_option maxHeartbeats 4000000 in
theorem alive_any (w : World) : Calls Try.prog 10 #[] w fun e w' => e = .returned (.bool true) ∧ Below w.heap.size w w' := by
  have fx : ∀ w, Calls Try.prog 18 #[.int .u8 120] w fun e w' => e = .returned (.string (fullB 120)) ∧ Below w.heap.size w w' := full_any 120
  have fy : ∀ w, Calls Try.prog 18 #[.int .u8 121] w fun e w' => e = .returned (.string (fullB 121)) ∧ Below w.heap.size w w' := full_any 121
  have fz : ∀ w, Calls Try.prog 18 #[.int .u8 122] w fun e w' => e = .returned (.string (fullB 122)) ∧ Below w.heap.size w w' := full_any 122
  have fw : ∀ w, Calls Try.prog 18 #[.int .u8 119] w fun e w' => e = .returned (.string (fullB 119)) ∧ Below w.heap.size w w' := full_any 119
  have n0 : Calls Try.prog 11 #[.int .i64 2] w _ := new_any 2 w (by omega) (by omega)
  go_enter Try.func10, Try.ntmps10
  go_wp2_with fail
  refine n0.mono ?_
  rintro e w1 ⟨rfl, h1, b1⟩
  have S := Lib.hid (show St w w1 (w.heap.size + 1) ⟨[fullL 0, fullL 0], [], -1⟩ from ⟨h1, b1⟩)
  generalize w.heap.size + 1 = p at *
  clear n0 h1 b1
  go_wp2_with fail
  refine (fx _).mono ?_
  rintro e w2 ⟨rfl, b2⟩
  have S2 := Lib.hid (S.out.later b2)
  clear b2 S
  have c1 : Calls Try.prog 17 #[.pointer (some ⟨p, 0, none⟩), .int .i64 0, .string (fullB 120)] w2 _ := write_any S2.out.rep (by decide) (k := 0) (by decide) (fullB 120) (fullB_size _) (by decide)
  go_wp2_with fail
  refine c1.mono ?_
  rintro e w3 ⟨rfl, h3⟩
  have S3 := Lib.hid (show St w w3 p ⟨[fullL 0, fullL 0], [(0, fullL 120)], -1⟩ from S2.out.op h3)
  clear h3 c1 S2
  go_wp2_with fail
  refine (sync_any S3.out.rep (by decide) (by decide)).mono ?_
  rintro e w4 ⟨rfl, h4⟩
  have S4 := Lib.hid (show St w w4 p ⟨[fullL 120, fullL 0], [], -1⟩ from S3.out.op0 h4)
  clear h4 S3
  go_wp2_with fail
  refine (fy _).mono ?_
  rintro e w5 ⟨rfl, b5⟩
  have S5 := Lib.hid (S4.out.later b5)
  clear b5 S4
  have c2 : Calls Try.prog 17 #[.pointer (some ⟨p, 0, none⟩), .int .i64 0, .string (fullB 121)] w5 _ := write_any S5.out.rep (by decide) (k := 0) (by decide) (fullB 121) (fullB_size _) (by decide)
  go_wp2_with fail
  refine c2.mono ?_
  rintro e w6 ⟨rfl, h6⟩
  have S6 := Lib.hid (show St w w6 p ⟨[fullL 120, fullL 0], [(0, fullL 121)], -1⟩ from S5.out.op h6)
  clear h6 c2 S5
  go_wp2_with fail
  refine (fz _).mono ?_
  rintro e w7 ⟨rfl, b7⟩
  have S7 := Lib.hid (S6.out.later b7)
  clear b7 S6
  have c3 : Calls Try.prog 17 #[.pointer (some ⟨p, 0, none⟩), .int .i64 1, .string (fullB 122)] w7 _ := write_any S7.out.rep (by decide) (k := 1) (by decide) (fullB 122) (fullB_size _) (by decide)
  go_wp2_with fail
  refine c3.mono ?_
  rintro e w8 ⟨rfl, h8⟩
  have S8 := Lib.hid (show St w w8 p ⟨[fullL 120, fullL 0], [(0, fullL 121), (1, fullL 122)], -1⟩ from S7.out.op h8)
  clear h8 c3 S7
  have B9 : Below w8.heap.size w8 (w8.alloc (.cells #[.bool false, .bool true] 4)) := (Below.refl _ w8).alloc (Nat.le_refl _) _
  have c4 := crash_any (S8.out.rep.later B9) (by decide) (bools_two w8 false true) (by decide) (fun b hb hc => by
    simp [Value.ownBlock] at hb
    subst hb
    have := hc.2
    omega)
  go_wp2_with fail
  refine c4.mono ?_
  rintro e w9 ⟨rfl, h9⟩
  have S10 := Lib.hid (show St w w9 p ⟨[fullL 120, fullL 122], [], -1⟩ from S8.out.op1 B9 h9)
  clear h9 c4 S8 B9
  have c5 : Calls Try.prog 42 #[.pointer (some ⟨p, 0, none⟩), .int .i64 0] w9 fun e w' => e = .returned (.tuple #[.string (fullB 120), .int .i64 0]) ∧ w9 = w' := read_any S10.out.rep (by decide) (k := 0) (by decide)
  have c6 : Calls Try.prog 42 #[.pointer (some ⟨p, 0, none⟩), .int .i64 1] w9 fun e w' => e = .returned (.tuple #[.string (fullB 122), .int .i64 0]) ∧ w9 = w' := read_any S10.out.rep (by decide) (k := 1) (by decide)
  go_wp2_with fail
  refine c5.mono ?_
  rintro e w' ⟨rfl, rfl⟩
  go_wp2_with fail
  refine c6.mono ?_
  rintro e w' ⟨rfl, rfl⟩
  clear c5 c6
  go_wp2_with fail
  refine (fuse_any S10.out.rep (n := 0) (by decide) (by decide)).mono ?_
  rintro e w10 ⟨rfl, h10⟩
  have S11 := Lib.hid (show St w w10 p ⟨[fullL 120, fullL 122], [], 0⟩ from S10.out.op0 h10)
  clear h10 S10
  go_wp2_with fail
  refine (fw _).mono ?_
  rintro e w11 ⟨rfl, b11⟩
  have S12 := Lib.hid (S11.out.later b11)
  clear b11 S11
  go_wp2_with fail
  refine (write_down S12.out.rep rfl 0 (fullB 119)).mono ?_
  rintro e w' ⟨rfl, rfl⟩
  go_wp2_with fail
  refine (fx _).mono ?_
  rintro e w12 ⟨rfl, b12⟩
  have S13 := Lib.hid (S12.out.later b12)
  clear b12 S12
  go_wp2_with fail
  refine (fz _).mono ?_
  rintro e w13 ⟨rfl, b13⟩
  have S14 := Lib.hid (S13.out.later b13)
  clear b13 S13
  have c7 : Calls Try.prog 15 #[.pointer (some ⟨p, 0, none⟩)] w13 fun e w' => e = .returned (.int .i64 2) ∧ w13 = w' := len_any S14.out.rep
  have c8 : Calls Try.prog 21 #[.pointer (some ⟨p, 0, none⟩)] w13 fun e w' => e = .returned (.int .i64 0) ∧ w13 = w' := loose_any S14.out.rep
  go_wp2_with fail
  refine c7.mono ?_
  rintro e w' ⟨rfl, rfl⟩
  go_wp2_with fail
  refine c8.mono ?_
  rintro e w' ⟨rfl, rfl⟩
  go_wp2_with fail
  go_ret
  exact ⟨rfl, S14.out.below⟩

end Go.Proofs.Ytehfclgngkhcpaa.Disk
