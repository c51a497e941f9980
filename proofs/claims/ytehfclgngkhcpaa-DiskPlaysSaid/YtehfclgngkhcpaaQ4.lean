/- The document's disk: All, New. -/
import Derived.Test.YtehfclgngkhcpaaQ3
namespace Go.Proofs.Ytehfclgngkhcpaa.Disk
open Go.RowKit
attribute [local go_sem ↓] Go.wp_at_zero Go.wp_at_succ

set_option maxRecDepth 100000 in
theorem conv_any (w : World) (g n cap : Nat) (l : List UInt8) (hl : l.length = n) (hr : w.rangeAt g 0 (Lib.byteCells l)) :
    (convert 69 9 (.slice (some ⟨g, 0, none⟩) n cap)).run Try.prog w = .ok (.string ⟨l.toArray⟩) w := by
  have := run_convert_bytes_back (P := Try.prog) w 69 9 5 ⟨g, 0, none⟩ cap l Try.underlying69 Try.underlying5 Try.underlying9 (fun j hj => by
    rw [Addr.add_mid]
    exact hr j _ (by simp [Lib.byteCells, List.getElem?_eq_getElem hj]))
  rwa [hl] at this
/-- the bytes of some sectors lie at v -/
def AllS (w : World) (p : Nat) (d : D) (F : Nat → Prop) (k : Nat) (v : Value) (wr : World) : Prop :=
  QRep wr p d F ∧ Below w.heap.size w wr ∧ wr.ownsRow w.heap.size 5 1 v (k * 128) (Lib.byteCells (d.sure.take k).flatten)

set_option maxRecDepth 100000 in
set_option maxHeartbeats 2000000 in
theorem qall_any {w : World} {p : Nat} {d : D} {F : Nat → Prop} (h : QRep w p d F) :
    Calls Try.prog 23 #[.pointer (some ⟨p, 0, none⟩)] w fun e w' => e = .returned (.string ⟨d.sure.flatten.toArray⟩) ∧ Below w.heap.size w w' := by
  have hmost := h.ok.most
  have hone := h.ok.one
  have heach := Lib.hid (show ∀ t ∈ d.sure, t.length = 128 from h.ok.each)
  have P0 := Lib.hid (show AllS w p d F 0 (.slice none 0 0) w from ⟨h, Below.refl _ _, World.ownsRow_nil _ _ _ _⟩)
  obtain ⟨i0, hi, hz0, hz1, hz2⟩ := info_parts info5
  have H := Lib.hid h
  clear h
  go_enter Try.func23, Try.ntmps23
  go_wp2_with fail
  go_loopw [3, 4] (fun v i wr => ∃ k : Nat, k ≤ d.sure.length ∧ i = .int .i64 k ∧ AllS w p d F k v wr) (fun _ i _ => d.sure.length - (intOf i).toNat)
  case atStart => exact ⟨0, by omega, by go_num, P0.out⟩
  case round =>
    obtain ⟨k, hk, rfl, hp⟩ := hrel
    clear P0
    obtain ⟨gs, sc, lv, L, _⟩ := hp.1.lay
    have c0 := L.cell0
    by_cases hlt : k < d.sure.length
    · have hx : d.sure[k]? = some d.sure[k] := List.getElem?_eq_getElem hlt
      have cs := L.sureAt hx
      have hlen : d.sure[k].length = 128 := heach.out _ (List.getElem_mem hlt)
      have b0 : (0 : Int) ≤ (k : Int) := Int.natCast_nonneg _
      have b1 : (k : Int) < (d.sure.length : Int) := by omega
      have hf := take_flatten d.sure k hlt
      obtain ⟨s, hs⟩ : ∃ s : ByteArray, strV d.sure[k] = .string s := ⟨_, rfl⟩
      have hss : Lib.strCells s = Lib.byteCells d.sure[k] := by
        simp [strV] at hs
        subst hs
        rfl
      have hsz : s.size = 128 := by
        simp [strV] at hs
        subst hs
        show d.sure[k].toArray.size = 128
        rw [List.size_toArray, hlen]
      rw [hs] at cs
      have HP := Lib.hid hp
      have HF := Lib.hid hf
      have HSS := Lib.hid hss
      clear hp L hx hs hf hss
      go_wp2_with (at_builtin; refine Lib.wpList_append_own_string _ rfl _ _ 69 9 rfl w.heap.size 5 i0 Try.underlying69 Try.underlying9 hi hz0 hz1 hz2 _ _ _ rfl HP.out.2.2 s rfl ?c3 ?c4 ?c5 ?_)
      case c3 => try rw [hsz]
                 unfold maxLen; omega
      case c4 => try rw [hsz]
                 omega
      case c5 => exact HP.out.2.1.size
      intro v' w5 hown hgrow _
      try rw [hsz] at hown
      rw [HSS.out, ← HF.out] at hown
      have hbel : Below w.heap.size w w5 := HP.out.2.1.grown hgrow HP.out.2.1.size (fun k hk => (HP.out.2.2.lt k hk).1)
      have e1 : k * 128 + 128 = (k + 1) * 128 := by omega
      rw [e1] at hown
      have P1 := Lib.hid (show AllS w p d F (k + 1) v' w5 from ⟨H.out.later hbel, hbel, hown⟩)
      clear hbel hown hgrow
      go_wp2_with fail
      go_roundw
      case rel => exact ⟨k + 1, by omega, by go_num, P1.out⟩
      case measure => simp [intOf]; omega
    · obtain rfl : k = d.sure.length := by omega
      obtain ⟨_, hbel, hown⟩ := hp
      rw [List.take_length] at hown
      obtain ⟨g, cap, rfl, _, _⟩ := hown.form (by omega)
      have hcv := conv_any wr g (d.sure.length * 128) cap d.sure.flatten (flatten_len _ heach.out) (ownsRow_range hown 0 _ (fun j v hv => by rw [Nat.zero_add]; exact hv))
      have HB := Lib.hid hbel
      clear hown hbel L
      go_wp2_with fail
      go_ret
      exact ⟨rfl, HB.out⟩

end Go.Proofs.Ytehfclgngkhcpaa.Disk
