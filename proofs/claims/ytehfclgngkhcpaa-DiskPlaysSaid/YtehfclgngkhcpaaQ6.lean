/- Load, the program's. -/
import Derived.Test.YtehfclgngkhcpaaQ5
namespace Go.Proofs.Ytehfclgngkhcpaa.Disk
open Go.RowKit
attribute [local go_sem ↓] Go.wp_at_zero Go.wp_at_succ

/-- an image's sectors -/
def part (img : List UInt8) (k : Nat) : List UInt8 := (img.drop (k * 128)).take 128
def parts (img : List UInt8) (n : Nat) : List (List UInt8) := (List.range n).map (part img)
def lset (img : List UInt8) (n k : Nat) : List (List UInt8) := (parts img n).take k ++ List.replicate (n - k) (fullL 0)
theorem parts_len (img : List UInt8) (n : Nat) : (parts img n).length = n := by simp [parts]
theorem part_len {img : List UInt8} {n k : Nat} (h : img.length = n * 128) (hk : k < n) : (part img k).length = 128 := by
  unfold part
  rw [List.length_take, List.length_drop]
  have := Nat.mul_le_mul_right 128 hk
  omega
theorem lset_len {img : List UInt8} {n k : Nat} (hk : k ≤ n) : (lset img n k).length = n := by simp [lset, parts_len]; omega
theorem lset_zero (img : List UInt8) (n : Nat) : lset img n 0 = List.replicate n (fullL 0) := by simp [lset]
theorem lset_end (img : List UInt8) (n : Nat) : lset img n n = parts img n := by
  unfold lset
  rw [List.take_of_length_le (by rw [parts_len]; omega), Nat.sub_self, List.replicate_zero, List.append_nil]
theorem lset_step {img : List UInt8} {n k : Nat} (hk : k < n) : (lset img n k).set k (part img k) = lset img n (k + 1) := by
  have e1 : n - k = (n - (k + 1)) + 1 := by omega
  have hl : ((parts img n).take k).length = k := by rw [List.length_take, parts_len]; omega
  have hg : (parts img n)[k]'(by rw [parts_len]; exact hk) = part img k := by simp [parts]
  unfold lset
  rw [e1, List.replicate_succ, List.set_append_right _ _ (by omega), hl, Nat.sub_self, List.set_cons_zero, List.take_succ_eq_append_getElem (by rw [parts_len]; exact hk), hg, List.append_assoc, List.singleton_append]
theorem lset_each {img : List UInt8} {n k : Nat} (h : img.length = n * 128) : ∀ t ∈ lset img n k, t.length = 128 := by
  intro t ht
  simp only [lset, List.mem_append] at ht
  rcases ht with ht | ht
  · have := List.mem_of_mem_take ht
    simp only [parts, List.mem_map, List.mem_range] at this
    obtain ⟨j, hj, rfl⟩ := this
    exact part_len h hj
  · rw [List.mem_replicate] at ht
    rw [ht.2]; exact fullL_len 0

/-- a sector is another one -/
theorem Rep.setS {w : World} {p : Nat} {d : D} {F : Nat → Prop} {gs sc : Nat} {lv mv : Value} (h : Rep w p d F) (L : Lay w p gs sc lv mv d) (f1 : F p) (f2 : F gs) (f3 : ∀ b, lv.ownBlock = some b → F b) (f4 : ∀ b, mv = .map (some b) → F b) {k : Nat} {t : List UInt8} (hk : k < d.sure.length) (hl : t.length = 128) :
    Rep (w.setCells gs (k * 128) (Lib.byteCells t)) p ⟨d.sure.set k t, d.loose, d.fuse⟩ F ∧ Touch F w (w.setCells gs (k * 128) (Lib.byteCells t)) := by
  have hc : (Lib.byteCells t).length = 128 := by rw [byteCells_len, hl]
  have ho : ∀ b, b ≠ gs → b < w.heap.size → (w.setCells gs (k * 128) (Lib.byteCells t)).heap[b]? = w.heap[b]? := fun b hb hs => World.heap_setCells_other w gs _ _ hs hb
  have hown := ownsRow_setCells L.sure (k * 128) (Lib.byteCells t) (by rw [hc]; have := Nat.mul_le_mul_right 128 hk; omega)
  rw [hc, flat_set h.ok.each hk] at hown
  have hsl : (d.sure.set k t).length = d.sure.length := by simp
  have ht := Touch.setCells f2 (Lib.byteCells t) (k * 128) (Touch.refl F w)
  refine ⟨⟨⟨by rw [hsl]; exact h.ok.one, by rw [hsl]; exact h.ok.most, settle_each (x := (k, t)) h.ok.each hl, by rw [hsl]; exact h.ok.there, h.ok.low, h.ok.high⟩, ⟨gs, sc, lv, mv, ⟨?_, ?_, ?_, ?_⟩, f1, f2, f3, f4⟩, fun b hb => Nat.lt_of_lt_of_le (h.below b hb) ht.size⟩, ht⟩
  · rw [hsl, ho p L.ne (h.below p f1)]; exact L.head
  · rw [hsl]; exact hown
  · exact ownsRow_far L.loose fun b hb => ho b (L.ne1 hb).2 (h.below b (f3 b hb))
  · exact L.newest.far fun b hb => ho b (L.ne2 hb).2.1 (h.below b (f4 b hb))

set_option maxRecDepth 100000 in
/-- 'copy' out of a longer text -/
theorem run_copy_long (w : World) (ty : TypeId) (g o : Nat) (s : ByteArray) (hs : 128 ≤ s.size) (ht : w.there g o 128) :
    (Builtin.copy_ #[69, 9] ty #[.slice (some ⟨g, o, none⟩) 128 128, .string s]).run Try.prog w = .ok (.int .i64 128) (w.setCells g o (Lib.byteCells (s.data.toList.take 128))) := by
  have hl : (s.data.toList.take 128).length = 128 := by rw [List.length_take]; have : s.data.toList.length = s.size := rfl; omega
  have hst := run_storeCells_cells (P := Try.prog) g o (Lib.byteCells (s.data.toList.take 128)) 0 w (fun j hj => (ht j (by rw [byteCells_len, hl] at hj; exact hj)).1) (fun j hj => (ht j (by rw [byteCells_len, hl] at hj; exact hj)).2) (byteCells_one _)
  rw [Nat.add_zero] at hst
  have hsz : (sizeOf 5).run Try.prog w = .ok 1 w := by kernel_rfl
  have hf : (Builtin.firstCells 1 128 (.string s)).run Try.prog w = .ok (Lib.byteCells (s.data.toList.take 128)).toArray w := by
    have e : (s.extract 0 128).data.map (fun b => Value.int .u8 (b.toNat : Int)) = (Lib.byteCells (s.data.toList.take 128)).toArray := by
      apply Array.toList_inj.1
      rw [ByteArray.data_extract]
      simp [Lib.byteCells, List.map_take]
    simp only [Builtin.firstCells, Sem.run_pure, e]
  have hm : Nat.min s.size 128 = 128 := Nat.min_eq_right hs
  simp only [Builtin.copy_, Sem.run_bind, run_underlying Try.underlying69, Result.andThen_ok, Builtin.lenOf, Sem.run_pure, hsz, List.getElem?_toArray, List.getElem?_cons_zero, List.getElem?_cons_succ, hm, hf, hst]
  simp [goInt]
set_option maxRecDepth 100000 in
theorem wpList_copy_long {w : World} {ops : Array Oper} {rest : List Oper} {o : Oper} {a : Act} {Q : Exit → Act → World → Prop} (hgd : o.guard = none) (d s : Operand)
    (ho : o.op = .call { callee := .builtin .copy, args := #[d, s], argTypes := #[69, 9] }) (g off : Nat) (x : ByteArray) (hd : a.eval d = .slice (some ⟨g, off, none⟩) 128 128) (hs : a.eval s = .string x)
    (hsz : 128 ≤ x.size) (ht : w.there g off 128) (h : wpList Try.prog ops Q rest (a.put o.dst (.int .i64 128)) (w.setCells g off (Lib.byteCells (x.data.toList.take 128)))) : wpList Try.prog ops Q (o :: rest) a w := by
  refine wpList_plain hgd fun K hK => ?_
  unfold Oper.wp execOp
  simp only [ho, resolve, invoke, builtin, Sem.run_bind, Sem.run_pure, Result.andThen_ok, List.map_toArray, List.map_cons, List.map_nil, hd, hs, run_copy_long w o.type g off x hsz ht]
  exact hK _ _ h

set_option maxRecDepth 100000 in
theorem load_arg (img : ByteArray) (w : World) (hm : img.size ≤ 140737488351232) (h : img.size % 128 ≠ 0 ∨ img.size / 128 < 1 ∨ 16384 < img.size / 128) : Calls Try.prog 13 #[.string img] w fun e w' => e = .returned (.tuple #[.pointer none, .int .i64 2]) ∧ w = w' := by
  by_cases h0 : img.size % 128 = 0
  · have h1 : img.size / 128 < 1 ∨ 16384 < img.size / 128 := by rcases h with h | h; exact (h h0).elim; exact h
    have m := new_arg ((img.size : Int) / 128) w (by omega)
    have e1 : ((img.size : Int) % 128 != 0) = false := by simp; omega
    clear h h0 h1
    go_enter Try.func13, Try.ntmps13
    go_wp2_with fail
    refine m.mono ?_
    rintro e w' ⟨rfl, rfl⟩
    clear m
    go_wp2_with fail
    go_ret2
    exact ⟨rfl, rfl⟩
  · have e1 : ((img.size : Int) % 128 != 0) = true := by simp; omega
    clear h h0
    go_enter Try.func13, Try.ntmps13
    go_wp2_with fail
    go_ret2
    exact ⟨rfl, rfl⟩

theorem cut_part (img : ByteArray) (n k : Nat) (hn : img.size = n * 128) (hk : k < n) : 128 ≤ (img.extract ((k : Int) * 128).toNat (n * 128)).size ∧ (img.extract ((k : Int) * 128).toNat (n * 128)).data.toList.take 128 = part img.data.toList k := by
  have e : ((k : Int) * 128).toNat = k * 128 := by omega
  have hl : img.data.toList.length = n * 128 := hn
  rw [e]
  refine ⟨?_, ?_⟩
  · rw [ByteArray.size_extract, hn, Nat.min_self]; omega
  · rw [ByteArray.data_extract, Array.toList_extract]
    unfold part
    rw [List.extract_eq_take_drop, List.take_take, Nat.min_eq_left (by omega)]

/-- so many sectors are there -/
def LoadS (w : World) (p : Nat) (F : Nat → Prop) (img : List UInt8) (n k : Nat) (wr : World) : Prop := Rep wr p ⟨lset img n k, [], -1⟩ F ∧ Below w.heap.size w wr

set_option maxRecDepth 100000 in
set_option maxHeartbeats 2000000 in
theorem load_any (img : ByteArray) (w : World) (n : Nat) (hn : img.size = n * 128) (h1 : 1 ≤ n) (h2 : n ≤ 16384) :
    Calls Try.prog 13 #[.string img] w fun e w' => ∃ p, e = .returned (.tuple #[.pointer (some ⟨p, 0, none⟩), .int .i64 0]) ∧ (Rep w' p ⟨parts img.data.toList n, [], -1⟩ (Fresh w w') ∧ Below w.heap.size w w') := by
  have m := new_any n w h1 h2
  have e1 : ((img.size : Int) % 128 != 0) = false := by simp; omega
  have en : (img.size : Int) / 128 = (n : Int) := by omega
  go_enter Try.func13, Try.ntmps13
  go_wp2_with fail
  refine m.mono ?_
  rintro e w1 ⟨rfl, hr, hb⟩
  have P0 : LoadS w (w.heap.size + 1) (Fresh w w1) img.data.toList n 0 w1 := ⟨by rw [lset_zero]; exact hr, hb⟩
  generalize w.heap.size + 1 = p at *
  obtain ⟨gs, sc, lv, mv, L, _⟩ := hr.lay
  have hdl : (D.new n).sure.length = n := by simp [D.new]
  have c0 := L.cell0
  rw [hdl] at c0
  have HP := Lib.hid P0
  have hsz1 := hb.size
  obtain ⟨F, hFe⟩ : ∃ F, F = Fresh w w1 := ⟨_, rfl⟩
  rw [← hFe] at HP
  have hF : ∀ b, F b → w.heap.size ≤ b := fun b hb => by rw [hFe] at hb; exact hb.1
  have HFF := Lib.hid hF
  have fin : ∀ wr, F p ∨ True → Rep wr p ⟨parts img.data.toList n, [], -1⟩ F → Below w.heap.size w wr → w1.heap.size ≤ wr.heap.size → Rep wr p ⟨parts img.data.toList n, [], -1⟩ (Fresh w wr) := fun wr _ h1 _ hs => h1.mono (fun b hb => by
    rw [hFe] at hb
    exact ⟨hb.1, Nat.lt_of_lt_of_le hb.2 hs⟩) (fun b hb => hb.2)
  have FIN := Lib.hid fin
  have HN := Lib.hid hn
  have him : img.data.toList.length = n * 128 := hn
  clear m hr P0 L hb hFe hF e1 en fin
  go_wp2_with fail
  clear c0
  go_loopw [26] (fun i wr => ∃ k : Nat, k ≤ n ∧ i = .int .i64 k ∧ LoadS w p F img.data.toList n k wr ∧ w1.heap.size ≤ wr.heap.size) (fun i _ => n - (intOf i).toNat)
  case atStart => exact ⟨0, by omega, by go_num, HP.out, Nat.le_refl _⟩
  case round =>
    obtain ⟨k, hk, rfl, hp, hs1⟩ := hrel
    clear HP
    by_cases hlt : k < n
    · obtain ⟨gs, sc, lv, mv, L, f1, f2, f3, f4⟩ := hp.1.lay
      have c0 := L.cell0
      have hll : (D.mk (lset img.data.toList n k) [] (-1)).sure.length = n := lset_len hk
      rw [hll] at c0
      have hpl := part_len him hlt
      have t1 : wr.there gs (k * 128) 128 := ownsRow_there L.sure (k * 128) 128 (by rw [hll]; have := Nat.mul_le_mul_right 128 hlt; omega)
      have hst := Rep.setS hp.1.drew L.drew f1 f2 f3 f4 (k := k) (by rw [hll]; exact hlt) hpl
      rw [show (D.mk (lset img.data.toList n k) [] (-1)).sure.set k (part img.data.toList k) = lset img.data.toList n (k + 1) from lset_step hlt] at hst
      have ST := Lib.hid (show LoadS w p F img.data.toList n (k + 1) (wr.drew.setCells gs (k * 128) (Lib.byteCells (part img.data.toList k))) ∧ w1.heap.size ≤ (wr.drew.setCells gs (k * 128) (Lib.byteCells (part img.data.toList k))).heap.size from ⟨⟨hst.1, hp.2.trans ((Touch.refl F wr).drew.trans' hst.2 |>.below hp.2.size HFF.out)⟩, Nat.le_trans hs1 hst.2.size⟩)
      have b0 : (0 : Int) ≤ (k : Int) := Int.natCast_nonneg _
      have b1 : (k : Int) < (n : Int) := by omega
      have sl := fun W o => slice_all W gs o
      have wk : IntKind.i64.wrap ((k : Int) * 128) = (k : Int) * 128 := IntWalk.i64_in _ (by omega)
      have b2 : (0 : Int) ≤ (k : Int) * 128 := by omega
      have b3 : (k : Int) * 128 ≤ (n : Int) * 128 := by omega
      clear hst L hp f3 f4 f1 f2
      go_wp2_with fail
      go_still_tail 11, (by kernel_rfl)
      obtain ⟨x1, x2⟩ := cut_part img n k HN.out hlt
      refine wpList_copy_long rfl _ _ rfl gs (k * 128) _ rfl rfl x1 t1 ?_
      rw [x2]
      clear x1 x2 sl wk t1 c0
      change wpList _ _ _ _ _ (wr.drew.setCells _ _ _)
      go_wp2_with fail
      go_roundw
      case rel => exact ⟨k + 1, by omega, by go_num, ST.out⟩
      case measure => simp [intOf]; omega
    · obtain rfl : k = n := by omega
      have HE := Lib.hid (show Rep wr p ⟨parts img.data.toList k, [], -1⟩ (Fresh w wr) ∧ Below w.heap.size w wr from ⟨FIN.out wr (.inr trivial) (by rw [← lset_end]; exact hp.1) hp.2 hs1, hp.2⟩)
      clear hp
      go_wp2_with fail
      go_ret2
      exact ⟨p, rfl, HE.out⟩

end Go.Proofs.Ytehfclgngkhcpaa.Disk
