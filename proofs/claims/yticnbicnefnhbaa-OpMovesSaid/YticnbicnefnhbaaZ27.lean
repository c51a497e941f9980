/-
  The code's Apply and Redo at the ops that OpMoves hands over (literals written out).
-/
import Derived.Test.YticnbicnefnhbaaZ16
import Derived.Test.YticnbicnefnhbaaZ4
namespace Go.Proofs.Yticnbicnefnhbaa.Op
open Go.RowKit
open Go.Proofs.Yticnbicnefnhbaa.Seq (strS Is Own Shp)
open Go.Proofs.Yticnbicnefnhbaa.Page (Pg pgV used mayP)
open Go.Proofs.Yticnbicnefnhbaa.By

theorem mayP_us {p : Pg} (h : mayP p = true) : used p.rows ≤ 1000000 := by have := (may_rows h).2.2.2.2; omega
theorem in_bare {W : World} {o : O} (h : o.wf) (ha : 0 ≤ o.at' ∧ o.at' ≤ 1000) (hf : o.off = 0) (ht : o.text.size ≤ 1000000) (hr : o.rows = []) : In W o (.slice none 0 0) :=
  ⟨h, ⟨by omega, by omega⟩, ⟨by omega, by omega⟩, by omega, by rw [hr]; exact Is.nil W, by rw [hr]; simp, by rw [hr]; simp⟩
section
variable {W : World} {p : Pg} {v : Value} {k : Nat} {t : ByteArray} {R : List ByteArray}
theorem in_cut (hw : p.wf) (hk : k ≤ 1000) : In W (cutO p.id k) (.slice none 0 0) := in_bare ⟨(show (5 : Nat) < 256 by decide), hw.id, (show (0 : Nat) < 256 by decide), (show (0 : Nat) < 256 by decide), (show (0 : Nat) < 4294967296 by decide)⟩ ⟨by show (0 : Int) ≤ (k : Int); omega, by show (k : Int) ≤ 1000; omega⟩ rfl (by show 0 ≤ 1000000; omega) rfl
theorem in_drop (hw : p.wf) (hk : k ≤ 1000) : In W (dropO p.id k) (.slice none 0 0) := in_bare ⟨(show (4 : Nat) < 256 by decide), hw.id, (show (0 : Nat) < 256 by decide), (show (0 : Nat) < 256 by decide), (show (0 : Nat) < 4294967296 by decide)⟩ ⟨by show (0 : Int) ≤ (k : Int); omega, by show (k : Int) ≤ 1000; omega⟩ rfl (by show 0 ≤ 1000000; omega) rfl
theorem in_put (hw : p.wf) (hk : k ≤ 1000) (ht : t.size ≤ 1000000) : In W (putO p.id k t) (.slice none 0 0) := in_bare ⟨(show (2 : Nat) < 256 by decide), hw.id, (show (0 : Nat) < 256 by decide), (show (0 : Nat) < 256 by decide), (show (0 : Nat) < 4294967296 by decide)⟩ ⟨by show (0 : Int) ≤ (k : Int); omega, by show (k : Int) ≤ 1000; omega⟩ rfl ht rfl
theorem in_set (hw : p.wf) (hk : k ≤ 1000) (ht : t.size ≤ 1000000) : In W (setO p.id k t) (.slice none 0 0) := in_bare ⟨(show (3 : Nat) < 256 by decide), hw.id, (show (0 : Nat) < 256 by decide), (show (0 : Nat) < 256 by decide), (show (0 : Nat) < 4294967296 by decide)⟩ ⟨by show (0 : Int) ≤ (k : Int); omega, by show (k : Int) ≤ 1000; omega⟩ rfl ht rfl
theorem in_fmt (i : Nat) (hi : i < 4294967296) (hp : p.wf) : In W (fmtO i p.kind) (.slice none 0 0) := in_bare ⟨(show (1 : Nat) < 256 by decide), hi, hp.kind, (show (0 : Nat) < 256 by decide), (show (0 : Nat) < 4294967296 by decide)⟩ ⟨(show (0 : Int) ≤ 0 by decide), (show (0 : Int) ≤ 1000 by decide)⟩ rfl (by show 0 ≤ 1000000; omega) rfl
theorem in_fill {i : Nat} (hi : i < 4294967296) (hR : Is strS W v R) (hu : used R ≤ 1000000) : In W (filO i R) v := by
  have h1 := Page.used_len R
  refine ⟨⟨by show 6 < 256; decide, hi, by show 0 < 256; decide, by show 0 < 256; decide, by show 0 < 4294967296; decide⟩, ⟨(show (-9223372036854775808 : Int) ≤ 0 by decide), (show (0 : Int) ≤ 9223372036854775807 by decide)⟩, ⟨(show (-9223372036854775808 : Int) ≤ 0 by decide), (show (0 : Int) ≤ 9223372036854775807 by decide)⟩, by show 0 ≤ 140737488351232; omega, hR, by show R.length ≤ _; omega, fun r hr => ?_⟩
  obtain ⟨j, hj, rfl⟩ := List.mem_iff_getElem.1 (show r ∈ R from hr)
  have := Page.nth_size hj
  rw [Page.nth_elem hj]
  omega

/-- cut -/
theorem ap_cut (hr : Page.Rows W v p.rows) (hc : Page.CapOk v) (hw : p.wf) (hm : mayP p = true) (hk : k ≤ p.rows.length) :
    Calls Try.prog 21 #[.agg #[.int .u8 (p.kind : Int), .int .u8 (p.level : Int), .int .u32 (p.id : Int), .int .u64 (p.lsn : Int), .int .u32 (p.next : Int), v], .agg #[.int .u8 5, .int .u32 (p.id : Int), .int .i64 (k : Int), .int .i64 0, .string ⟨#[]⟩, .slice none 0 0, .int .u8 0, .int .u8 0, .int .u32 0], .int .u64 3] W (PgOut W v { p with rows := p.rows.take k, lsn := 3 } 0) := by
  have hl := rows_len hm
  have := capply_any (lsn := 3) hr hc (mayP_us hm) (in_cut (k := k) hw (by omega)) (by decide)
  rw [(cut_is hm hk 3).1, (cut_is hm hk 3).2] at this
  exact this
/-- filled back -/
theorem ap_fill {u : Value} {x : Nat} (hr : Page.Rows W v (p.rows.take k)) (hc : Page.CapOk v) (hw : p.wf) (hm : mayP p = true) (hk : k ≤ p.rows.length) (_hx : x < 18446744073709551616) (hR : Is strS W u (p.rows.drop k)) :
    Calls Try.prog 21 #[.agg #[.int .u8 (p.kind : Int), .int .u8 (p.level : Int), .int .u32 (p.id : Int), .int .u64 (x : Int), .int .u32 (p.next : Int), v], .agg #[.int .u8 6, .int .u32 (p.id : Int), .int .i64 0, .int .i64 0, .string ⟨#[]⟩, u, .int .u8 0, .int .u8 0, .int .u32 0], .int .u64 (p.lsn : Int)] W (PgOut W v p 0) := by
  have hd := used_drop_le p.rows k
  have hu := mayP_us hm
  have := capply_any (p := { p with rows := p.rows.take k, lsn := x }) (lsn := p.lsn) hr hc (by have := Page.used_take_le p.rows k; show used (p.rows.take k) ≤ _; omega) (in_fill hw.id hR (by omega)) hw.lsn
  rw [(fill_is hm hk x).1, (fill_is hm hk x).2] at this
  exact this
/-- put -/
theorem ap_put (hr : Page.Rows W v p.rows) (hc : Page.CapOk v) (hw : p.wf) (hm : mayP p = true) (hk : k ≤ p.rows.length) (ht : t.size ≤ 1000000) :
    Calls Try.prog 21 #[.agg #[.int .u8 (p.kind : Int), .int .u8 (p.level : Int), .int .u32 (p.id : Int), .int .u64 (p.lsn : Int), .int .u32 (p.next : Int), v], .agg #[.int .u8 2, .int .u32 (p.id : Int), .int .i64 (k : Int), .int .i64 0, .string t, .slice none 0 0, .int .u8 0, .int .u8 0, .int .u32 0], .int .u64 4] W (PgOut W v (appP p (putO p.id k t) 4) (appE p (putO p.id k t) 4)) := by
  have hl := rows_len hm
  exact capply_any (lsn := 4) hr hc (mayP_us hm) (in_put hw (by omega) ht) (by decide)
/-- set -/
theorem ap_set (hr : Page.Rows W v p.rows) (hc : Page.CapOk v) (hw : p.wf) (hm : mayP p = true) (hk : k ≤ p.rows.length) (ht : t.size ≤ 1000000) :
    Calls Try.prog 21 #[.agg #[.int .u8 (p.kind : Int), .int .u8 (p.level : Int), .int .u32 (p.id : Int), .int .u64 (p.lsn : Int), .int .u32 (p.next : Int), v], .agg #[.int .u8 3, .int .u32 (p.id : Int), .int .i64 (k : Int), .int .i64 0, .string t, .slice none 0 0, .int .u8 0, .int .u8 0, .int .u32 0], .int .u64 4] W (PgOut W v (appP p (setO p.id k t) 4) (appE p (setO p.id k t) 4)) := by
  have hl := rows_len hm
  exact capply_any (lsn := 4) hr hc (mayP_us hm) (in_set hw (by omega) ht) (by decide)
/-- what was done may be -/
theorem app_wf {o : O} {x : Nat} (hw : p.wf) (ho : o.wf) (hx : x < 18446744073709551616) (h : appE p o x = 0) : (appP p o x).wf ∧ mayP (appP p o x) = true := by
  obtain ⟨_, h2, h3⟩ := app_ok h
  rw [h3]
  refine ⟨?_, h2⟩
  unfold done
  simp only
  repeat' split
  all_goals first | exact ⟨ho.pkind, ho.level, ho.page, hx, ho.next⟩ | exact ⟨hw.kind, hw.level, hw.id, hx, ho.next⟩ | exact ⟨hw.kind, hw.level, hw.id, hx, hw.next⟩
/-- dropped -/
theorem ap_drop {q : Pg} (hq : q = appP p (putO p.id k t) 4) (he : appE p (putO p.id k t) 4 = 0) (hr : Page.Rows W v q.rows) (hc : Page.CapOk v) (hw : p.wf) (hm : mayP p = true) (hk : k ≤ p.rows.length) :
    Calls Try.prog 21 #[.agg #[.int .u8 (q.kind : Int), .int .u8 (q.level : Int), .int .u32 (q.id : Int), .int .u64 (q.lsn : Int), .int .u32 (q.next : Int), v], .agg #[.int .u8 4, .int .u32 (p.id : Int), .int .i64 (k : Int), .int .i64 0, .string ⟨#[]⟩, .slice none 0 0, .int .u8 0, .int .u8 0, .int .u32 0], .int .u64 (p.lsn : Int)] W (PgOut W v p 0) := by
  have hl := rows_len hm
  obtain ⟨h1, h2⟩ := app_wf hw (⟨(show (2 : Nat) < 256 by decide), hw.id, (show (0 : Nat) < 256 by decide), (show (0 : Nat) < 256 by decide), (show (0 : Nat) < 4294967296 by decide)⟩ : (putO p.id k t).wf) (by decide) he
  rw [← hq] at h1 h2
  have := capply_any (p := q) (lsn := p.lsn) hr hc (mayP_us h2) (in_drop (p := p) (k := k) hw (by omega)) hw.lsn
  have hp := put_drop hm hk he
  rw [← hq] at hp
  rw [hp.1, hp.2] at this
  exact this
/-- set back -/
theorem ap_back {q : Pg} (hq : q = appP p (setO p.id k t) 4) (he : appE p (setO p.id k t) 4 = 0) (hr : Page.Rows W v q.rows) (hc : Page.CapOk v) (hw : p.wf) (hm : mayP p = true) (hk : k < p.rows.length) :
    Calls Try.prog 21 #[.agg #[.int .u8 (q.kind : Int), .int .u8 (q.level : Int), .int .u32 (q.id : Int), .int .u64 (q.lsn : Int), .int .u32 (q.next : Int), v], .agg #[.int .u8 3, .int .u32 (p.id : Int), .int .i64 (k : Int), .int .i64 0, .string (Page.nth p.rows k), .slice none 0 0, .int .u8 0, .int .u8 0, .int .u32 0], .int .u64 (p.lsn : Int)] W (PgOut W v p 0) := by
  have hl := rows_len hm
  have hz := Page.nth_size hk
  have hu := mayP_us hm
  obtain ⟨h1, h2⟩ := app_wf hw (⟨(show (3 : Nat) < 256 by decide), hw.id, (show (0 : Nat) < 256 by decide), (show (0 : Nat) < 256 by decide), (show (0 : Nat) < 4294967296 by decide)⟩ : (setO p.id k t).wf) (by decide) he
  rw [← hq] at h1 h2
  have := capply_any (p := q) (lsn := p.lsn) hr hc (mayP_us h2) (in_set (p := p) (k := k) hw (by omega) (t := Page.nth p.rows k) (by omega)) hw.lsn
  have hp := set_back hm hk he
  rw [← hq] at hp
  rw [hp.1, hp.2] at this
  exact this
/-- filled into an empty page -/
theorem ap_else {g : Nat} (hw : p.wf) (hm : mayP p = true) {u : Value} (hu1 : u.oneCell' = true) (hR : Is strS W u (p.rows.drop k))
    (hg : W.heap[g]? = some (.cells #[.int .u8 1, .int .u32 9, .int .i64 0, .int .i64 0, .string ⟨#[]⟩, .slice none 0 0, .int .u8 (p.kind : Int), .int .u8 0, .int .u32 0, .int .u8 6, .int .u32 9, .int .i64 0, .int .i64 0, .string ⟨#[]⟩, u, .int .u8 0, .int .u8 0, .int .u32 0] 26 (0, 0))) :
    Calls Try.prog 23 #[.agg #[.int .u8 0, .int .u8 0, .int .u32 9, .int .u64 0, .int .u32 0, .slice none 0 0], .int .u64 3, .slice (some ⟨g, 0, none⟩) 2 2] W (PgOut W (.slice none 0 0) ⟨p.kind, 0, 9, 3, 0, p.rows.drop k⟩ 0) := by
  have hd := used_drop_le p.rows k
  have hu := mayP_us hm
  have hops : Ops W (.slice (some ⟨g, 0, none⟩) 2 2) [fmtO 9 p.kind, filO 9 (p.rows.drop k)] := by
    refine ⟨[(fmtO 9 p.kind, ⟨.slice none 0 0, rfl⟩), (filO 9 (p.rows.drop k), ⟨u, hu1⟩)], rfl, ⟨some ⟨g, 0, none⟩, 2, rfl, Nat.le_refl _, (fun h => by cases h), .inr ⟨g, 0, rfl, (Array.getElem?_eq_some_iff.1 hg).1, fun j x hx => ?_⟩⟩, fun x hx => ?_⟩
    · rw [Nat.zero_add, cell_of_row _ _ _ _ _ _ hg, ← Array.getElem?_toList]
      exact hx
    · simp only [List.mem_cons, List.not_mem_nil, or_false] at hx
      rcases hx with rfl | rfl
      · exact in_fmt 9 (by decide) hw
      · exact in_fill (by decide) hR (by omega)
  have := credo_any (p := ⟨0, 0, 9, 0, 0, []⟩) (v := .slice none 0 0) (lsn := 3) (w := W) ⟨none, 0, rfl, .inl rfl⟩ Page.cap_none (by decide) hops (by decide) (by show 2 ≤ 1000000; decide)
  rw [else_is hm k] at this
  exact this
end
end Go.Proofs.Yticnbicnefnhbaa.Op
