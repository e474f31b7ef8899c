/- What the helpers of the general laws do: the test of sizes, the comparison of lists, the sum and the residue; and the slice of bytes that comes in. -/
import Derived.Test.YtdocbkocekamlaaCur
import Derived.Test.YtdocbkocekamlaaClose
import Derived.Test.YtdocbkocekamlaaBits7
namespace Go.Proofs.Ytdocbkocekamlaa
open Go.ChangeShapes Go.WideShapes Go.ChangeAt Go.RowKit

theorem cellsByte : Try.prog.cellsOf 5 = 1 := by kernel_rfl

theorem openBytes {H : Type} {enc : TypeId × Value → H} {W : World} {base : Nat} {v : Value} {d : DataW H} {ps : List MemPlace} (hv : Value.okWide Try.prog W .any base 22 v)
    (h : DataW.Trod enc Try.prog W 0 (fun _ => true) true 22 v d ps) :
    ∃ (a : Option Addr) (n c : Nat) (bs : List Int), v = .slice a n c ∧ HasB W a n bs ∧ n ≤ maxLen := by
  obtain ⟨fuel, hf⟩ := h
  obtain ⟨a0, n0, c0, rfl⟩ := okWide_slice Try.underlying22 hv
  have hcs : (Value.slice a0 n0 c0).cells.toList = [.slice a0 n0 c0] := rfl
  rw [hcs] at hf
  rcases open_ints Try.underlying22 Try.underlying5 cellsByte hf with ⟨e, _⟩ | ⟨a, len, cap, zs, e, _, hl, hm, hlen, ex, hc, hwf⟩
  · exact ⟨none, 0, 0, [], by simpa using e, ⟨rfl, fun h => absurd h (by omega), fun k hk => absurd hk (by omega)⟩, Nat.zero_le _⟩
  · simp only [if_true] at hlen
    refine ⟨some a, len, cap, zs.take len, by simpa using e, ⟨by rw [List.length_take]; omega, fun hn => ⟨a, rfl, ?_, fun k hk => ?_⟩, fun k hk => ?_⟩, by omega⟩
    · have h0 := World.block_lt_of_cell? W _ (hc 0 (by omega))
      rwa [addBlock] at h0
    · rw [hc k (by omega)]
      simp [List.getD, hk]
    · have hz := hwf zs[k] (List.getElem_mem (by omega))
      have e1 : (zs.take len).getD k 0 = zs[k] := by simp [List.getD, hk, List.getElem?_eq_getElem (show k < zs.length by omega)]
      rw [e1]
      have h1 : IntKind.u8.min = 0 := rfl
      have h2 : IntKind.u8.max = 255 := rfl
      simp only [Lit.wf, Bool.and_eq_true, decide_eq_true_eq] at hz
      omega

/-- Some bool, and nothing has turned. -/
def SomeBool (w : World) (e : Ending) (w' : World) : Prop := ∃ b : Bool, e = .returned (.bool b) ∧ w = w'

set_option maxHeartbeats 400000 in
theorem big_any (A B : Option Addr) (n m c d : Nat) (w : World) (hn : n ≤ maxLen) (_hm : m ≤ maxLen) :
    Calls Try.prog 5 #[.slice A n c, .slice B m d] w fun e w' => SomeBool w e w' := by
  unfold maxLen at hn
  by_cases h : 1048576 < n
  · go_enter Try.func5, Try.ntmps5
    go_wp2
    go_ret
    exact ⟨_, rfl, rfl⟩
  · go_enter Try.func5, Try.ntmps5
    go_wp2
    go_ret
    exact ⟨_, rfl, rfl⟩

set_option maxHeartbeats 400000 in
theorem sameInts_same (A B : Option Addr) (n n' c d : Nat) (zs : List Int) (w : World) (ha : Has w A n zs) (hb : Has w B n' zs) (hn : n ≤ 16777216) :
    Calls Try.prog 12 #[.slice A n c, .slice B n' d] w fun e w' => e = .returned (.bool true) ∧ Below w.heap.size w w' := by
  obtain rfl : n = n' := ha.1.symm.trans hb.1
  go_enter Try.func12, Try.ntmps12
  go_wp2
  go_loopw [13] (fun i wr => ∃ k : Nat, k ≤ n ∧ i = .int .i64 k ∧ Below w.heap.size w wr) (fun i _ => n - (intOf i).toNat)
  case atStart => exact ⟨0, Nat.zero_le _, rfl, Below.refl _ _⟩
  case round =>
    obtain ⟨k, hk, rfl, hbk⟩ := hrel
    by_cases hlt : k < n
    · obtain ⟨ad, rfl, hc⟩ := (ha.below hbk).at_ hlt
      obtain ⟨bd, rfl, hd⟩ := (hb.below hbk).at_ hlt
      have k0 : (0 : Int) ≤ (k : Int) := by omega
      have k1 : (k : Int) < (n : Int) := by omega
      go_wp2
      go_quiet (fail)
      go_wp2
      go_roundw
      case rel => exact ⟨k + 1, by omega, by go_num, below_drewN hbk _⟩
      case measure => simp [intOf]; omega
    · go_wp2
      go_ret
      exact ⟨rfl, hbk⟩

set_option maxHeartbeats 400000 in
theorem pSum_bits (A : Option Addr) (n c : Nat) (zs : List Int) (w : World) (h : Has w A n zs) (hn : n ≤ 64) (hg : ∀ k, k < zs.length → 0 ≤ zs.getD k 0 ∧ zs.getD k 0 ≤ 1) :
    Calls Try.prog 23 #[.slice A n c] w fun e w' => ∃ t : Int, e = .returned (.int .i64 t) ∧ Hid (t = sumTo zs n) ∧ 0 ≤ t ∧ t ≤ n ∧ w = w' := by
  have HG := Lib.hid hg
  have HL := Lib.hid h.1
  clear hg
  go_enter Try.func23, Try.ntmps23
  go_wp2
  go_loop [3, 8] (fun s i => ∃ (k : Nat) (t : Int), k ≤ n ∧ i = .int .i64 k ∧ s = .int .i64 t ∧ 0 ≤ t ∧ t ≤ k ∧ Hid (t = sumTo zs k)) (fun _ i => n - (intOf i).toNat)
  case atStart => exact ⟨0, 0, Nat.zero_le _, rfl, rfl, by omega, by omega, rfl⟩
  case round =>
    obtain ⟨k, t, hk, rfl, rfl, t0, t1, HT⟩ := hrel
    by_cases hlt : k < n
    · obtain ⟨ad, z, rfl, hc, HZ⟩ := h.elem hlt
      obtain ⟨z0, z1⟩ : 0 ≤ z ∧ z ≤ 1 := by rw [HZ.out]; exact HG.out k (by rw [HL.out]; exact hlt)
      go_wp2
      go_round
      case rel => exact ⟨k + 1, t + z, by omega, by go_num, rfl, by omega, by omega, by show _ = sumTo zs k + _; rw [← HT.out, ← HZ.out]⟩
      case measure => simp [intOf]; omega
    · obtain rfl : k = n := by omega
      go_wp2
      go_ret
      exact ⟨_, rfl, HT, t0, t1, rfl⟩

set_option maxHeartbeats 400000 in
theorem pMod_any (a m r : Int) (w : World) (ha : -1000000 ≤ a) (hb : a ≤ 1000000) (hm : 0 < m) (hm2 : m ≤ 1000000) (hr : a % m = r) :
    Calls Try.prog 15 #[.int .i64 a, .int .i64 m] w fun e w' => e = .returned (.int .i64 r) ∧ w = w' := by
  have HR := Lib.hid hr
  clear hr
  by_cases h0 : 0 ≤ a
  · have e0 := Int.emod_nonneg a (show m ≠ 0 by omega)
    have e1 := Int.emod_lt_of_pos a hm
    go_enter Try.func15, Try.ntmps15
    go_wp2
    go_ret
    exact ⟨retInt (by rw [Int.add_emod_right, Int.emod_emod, HR.out]), rfl⟩
  · have e0 := Int.lt_tmod_of_pos a hm
    have e1 := Int.tmod_lt_of_pos a hm
    go_enter Try.func15, Try.ntmps15
    go_wp2
    go_ret
    exact ⟨retInt (by rw [tmod_emod, HR.out]), rfl⟩

/-- Two lists that came out of the reader. -/
def TwoLists (w w' : World) (e : Ending) : Prop :=
  ∃ R k c R' k' c', e = .returned (.tuple #[.slice R k c, .slice R' k' c']) ∧ (∃ xs, Has w' R k xs) ∧ (∃ ys, Has w' R' k' ys) ∧ k ≤ 100 ∧ k' ≤ 100 ∧ Below w.heap.size w w'

set_option maxHeartbeats 1000000 in
theorem DrawXorBits_any (A : Option Addr) (n c : Nat) (bs : List Int) (w : World) (h : HasB w A n bs) :
    Calls Try.prog 16 #[.slice A n c] w fun e w' => TwoLists w w' e := by
  have hc := curNew c h
  go_enter Try.func16, Try.ntmps16
  go_wp2_with fail
  refine (anyBits_any A w.heap.size n c 0 bs _ hc (by omega)).mono ?_
  rintro e w1 ⟨R, k, c', rfl, zs, ho, hk, hc1, hg1⟩
  go_wp2_with fail
  refine (one_any A w.heap.size n c (0 + 20000) bs 12 _ hc1 (by omega) (by omega) (by omega)).mono ?_
  rintro e w2 ⟨b, rfl, hc2, hg2⟩
  have hs1 := hg1.size
  have hs2 := hg2.size
  have ho2 : Own w2 (w.heap.size + 1) R k c' zs := ⟨ho.1, ownStays (ho.mono (by simp)).2 hg2 (by omega)⟩
  cases b with
  | true =>
    go_wp2_with fail
    refine (anyBits_any A w.heap.size n c (0 + 20000 + 2) bs _ hc2 (by omega)).mono ?_
    rintro e w3 ⟨R3, k3, c3, rfl, zs3, ho3, hk3, hc3, hg3⟩
    have hx : Has w3 R k zs := (show Own w3 (w.heap.size + 1) R k c' zs from ⟨ho2.1, ownStays ho2.2 hg3 (by omega)⟩).has
    go_wp2_with fail
    go_ret2
    exact ⟨R, k, c', R3, k3, c3, rfl, ⟨_, hx⟩, ⟨_, ho3.has⟩, hk, hk3, belowCur ((hg1.trans hg2).trans hg3)⟩
  | false =>
    go_wp2_with fail
    refine (bits_any A w.heap.size n c (0 + 20000 + 2) bs (k : Int) _ hc2 (by omega) (by omega) (by omega)).mono ?_
    rintro e w3 ⟨R3, k3, c3, rfl, zs3, ho3, hab3, hk3, hkm3, hc3, hg3⟩
    have hx : Has w3 R k zs := (show Own w3 (w.heap.size + 1) R k c' zs from ⟨ho2.1, ownStays ho2.2 hg3 (by omega)⟩).has
    go_wp2_with fail
    go_ret2
    exact ⟨R, k, c', R3, k3, c3, rfl, ⟨_, hx⟩, ⟨_, ho3.has⟩, hk, by omega, belowCur ((hg1.trans hg2).trans hg3)⟩

/-- A list and a number that came out of the reader. -/
def ListInt (w w' : World) (e : Ending) : Prop :=
  ∃ R k c x, e = .returned (.tuple #[.slice R k c, .int .i64 x]) ∧ (∃ xs, Has w' R k xs) ∧ k ≤ 100 ∧ -1000000 ≤ x ∧ x ≤ 1000000 ∧ Below w.heap.size w w'

set_option maxHeartbeats 1000000 in
theorem DrawTurnBits_any (A : Option Addr) (n c : Nat) (bs : List Int) (w : World) (h : HasB w A n bs) :
    Calls Try.prog 19 #[.slice A n c] w fun e w' => ListInt w w' e := by
  have hc := curNew c h
  go_enter Try.func19, Try.ntmps19
  go_wp2_with fail
  refine (anyBits_any A w.heap.size n c 0 bs _ hc (by omega)).mono ?_
  rintro e w1 ⟨R, k, c', rfl, zs, ho, hk, hc1, hg1⟩
  go_wp2_with fail
  refine (pick_any A w.heap.size n c (0 + 20000) bs 40 _ hc1 (by omega) (by omega) (by omega)).mono ?_
  rintro e w2 ⟨y, rfl, y0, y1, hc2, hg2⟩
  have hs1 := hg1.size
  have hs2 := hg2.size
  simp only [World.size_alloc] at hs1
  have ho2 : Own w2 (w.heap.size + 1) R k c' zs := ⟨ho.1, ownStays (ho.mono (by simp)).2 hg2 (by omega)⟩
  go_wp2_with fail
  have hL := hasLit (w := w2) (vs := #[.int .i64 0, .int .i64 1, .int .i64 (-1), .int .i64 3, .int .i64 1000, .int .i64 (-1000), .int .i64 1001, .int .i64 (-1001), .int .i64 (y - 20)]) (zs := [0, 1, -1, 3, 1000, -1000, 1001, -1001, y - 20]) (n := 9) rfl rfl
  have hc3 := hc2.below (B := w2.heap.size) (by omega) ((Below.refl _ _).alloc (Nat.le_refl _) (.cells #[.int .i64 0, .int .i64 1, .int .i64 (-1), .int .i64 3, .int .i64 1000, .int .i64 (-1000), .int .i64 1001, .int .i64 (-1001), .int .i64 (y - 20)] 3))
  refine (among_any A w.heap.size n c (0 + 20000 + 2) bs _ 9 9 _ _ hc3 hL (fun _ ad e => by injection e with e; subst e; show w2.heap.size ≠ w.heap.size; omega) (by omega) (by omega) (by omega)).mono ?_
  rintro e w3 ⟨z, rfl, hz, hc4, hg4⟩
  have hzb : -1000000 ≤ z ∧ z ≤ 1000000 := by simp at hz; omega
  have hx : Has w3 R k zs := (show Own w3 (w.heap.size + 1) R k c' zs from ⟨ho2.1, ownStays (ho2.2.alloc _) hg4 (by omega)⟩).has
  go_wp2_with fail
  go_ret2
  exact ⟨R, k, c', z, rfl, ⟨_, hx⟩, hk, hzb.1, hzb.2, belowCur ((grownThen (hg1.trans hg2) ((Below.refl _ _).alloc (by simp; omega) _)).trans hg4)⟩

end Go.Proofs.Ytdocbkocekamlaa
