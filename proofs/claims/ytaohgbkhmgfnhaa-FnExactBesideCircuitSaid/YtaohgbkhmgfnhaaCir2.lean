/- The comparison, the marks and the size of a list of gates, in the exact laws. For lists of at most 1048576 gates. -/
import Derived.Test.YtaohgbkhmgfnhaaCir1
import Derived.StillTailTactics
namespace Go.Proofs.Ytaohgbkhmgfnhaa
open Go.RowKit
set_option maxRecDepth 100000

set_option maxHeartbeats 400000 in
theorem szGateS_any (A : Option Addr) (n c : Nat) (x : Int) (w : World) (hx0 : 0 ≤ x) (hx : x ≤ 1048576) (hn : (n : Int) ≤ 9223372036854775807) :
    Calls Try.prog 39 #[.slice A n c, .int .i64 x] w fun e w' => e = .returned (.int .i64 (if x - n < 0 then -1 else x - n)) ∧ w = w' := by
  have hw : IntKind.i64.wrap (x - (n : Int)) = x - n := wrapIn (by omega) (by omega)
  by_cases h : x - n < 0
  · rw [if_pos h]
    go_enter Try.func39, Try.ntmps39
    go_wp2
    go_ret
    exact ⟨rfl, rfl⟩
  · rw [if_neg h]
    go_enter Try.func39, Try.ntmps39
    go_wp2
    go_ret
    exact ⟨rfl, rfl⟩

set_option maxRecDepth 100000 in
set_option maxHeartbeats 400000 in
theorem eqGateS_same (A B : Option Addr) (n n' c d : Nat) (gs : List Ga) (w : World) (ha : HasG w A n gs) (hb : HasG w B n' gs) (hn : n ≤ 16777216) :
    Calls Try.prog 48 #[.slice A n c, .slice B n' d] w fun e w' => e = .returned (.bool true) ∧ Below w.heap.size w w' := by
  obtain rfl : n = n' := ha.1.symm.trans hb.1
  go_enter Try.func48, Try.ntmps48
  go_wp2
  go_loopw [5] (fun i wr => ∃ k : Nat, k ≤ n ∧ i = .int .i64 k ∧ Below w.heap.size w wr) (fun i _ => n - (intOf i).toNat)
  case atStart => exact ⟨0, Nat.zero_le _, rfl, Below.refl _ _⟩
  case round =>
    obtain ⟨k, hk, rfl, hbk⟩ := hrel
    by_cases hlt : k < n
    · obtain ⟨ad, x, y, z, rfl, hx, hy, hz, HE⟩ := (ha.below hbk).elem hlt
      obtain ⟨bd, x', y', z', rfl, hx', hy', hz', HE'⟩ := (hb.below hbk).elem hlt
      obtain ⟨rfl, rfl, rfl⟩ : x' = x ∧ y' = y ∧ z' = z := by
        have e := HE.out.symm.trans HE'.out
        injection e with e1 e2
        injection e2 with e2 e3
        exact ⟨e1.symm, e2.symm, e3.symm⟩
      have k0 : (0 : Int) ≤ (k : Int) := by omega
      have k1 : (k : Int) < (n : Int) := by omega
      go_wp2_with fail
      go_still_tail 8, (by kernel_rfl)
      change wpList _ _ _ _ _ wr.drew
      have b2 : Below w.heap.size w wr.drew := ⟨hbk.os, hbk.tape, hbk.output, hbk.size, hbk.block⟩
      generalize wr.drew = w2 at b2 ⊢
      clear hx hy hz hx' hy' hz'
      go_wp2_with fail
      refine (eqGate_same x' y' z' w2).mono ?_
      rintro e w3 ⟨rfl, b3⟩
      go_wp2_with fail
      go_roundw
      case rel => exact ⟨k + 1, by omega, by go_num, b2.trans (b3.mono b2.size)⟩
      case measure => simp [intOf]; omega
    · go_wp2
      go_ret
      exact ⟨rfl, hbk⟩

/-- The marks m, m + 1, .. in the cells of n gates. -/
def gmarks (m : Int) (n : Nat) : List Ga := (List.range n).map fun (j : Nat) => (m + 3 * (j : Int), m + 3 * (j : Int) + 1, m + 3 * (j : Int) + 2)
theorem gmarks_length (m : Int) (n : Nat) : (gmarks m n).length = n := by simp [gmarks]
theorem gmarks_at (m : Int) (n k : Nat) (h : k < n) : (gmarks m n).getD k g0 = (m + 3 * (k : Int), m + 3 * (k : Int) + 1, m + 3 * (k : Int) + 2) := by
  simp [gmarks, List.getD, h]

set_option maxHeartbeats 1000000 in
theorem markGateS_any (A : Option Addr) (B n c : Nat) (m : Int) (gs : List Ga) (w : World) (h : OwnG w B A n c gs) (hn : n ≤ 1048576) (hm0 : 0 ≤ m) (hm1 : m ≤ 16777216) :
    Calls Try.prog 55 #[.slice A n c, .int .i64 m] w fun e w' => e = .returned (.int .i64 (m + 3 * (n : Int))) ∧ OwnG w' B A n c (gmarks m n) ∧ w.grownBy w' (blockOf A) := by
  go_enter Try.func55, Try.ntmps55
  go_wp2
  go_loopw [1, 5] (fun q i wr => ∃ (k : Nat) (xs : List Value), k ≤ n ∧ i = .int .i64 k ∧ q = .int .i64 (m + 3 * (k : Int)) ∧ wr.ownsRow B 51 3 (.slice A n c) n xs ∧ (∀ j, j < k * 3 → xs[j]? = (gvals (gmarks m n))[j]?) ∧ w.grownBy wr (blockOf A)) (fun _ i _ => n - (intOf i).toNat)
  case atStart => exact ⟨0, _, Nat.zero_le _, rfl, by simp, h.2, by intro j hj; omega, World.grownBy.refl _ _⟩
  case round =>
    obtain ⟨k, xs, hk, rfl, rfl, ho, hxs, hgk⟩ := hrel
    by_cases hlt : k < n
    · obtain ⟨g, cap, hv, _, _⟩ := ho.form (by omega)
      obtain rfl : A = some ⟨g, 0, none⟩ := by injection hv
      obtain rfl : c = cap := by injection hv
      have HX := Lib.hid hxs
      clear hxs hv
      obtain ⟨⟨u0, c0⟩, ⟨u1, c1⟩, ⟨u2, c2⟩⟩ := gcells ho hlt
      have f0 := ho.frozenAt (k * 3)
      have f1 := ho.frozenAt (k * 3 + 1)
      have f2 := ho.frozenAt (k * 3 + 2)
      have k0 : (0 : Int) ≤ (k : Int) := by omega
      have k1 : (k : Int) < (n : Int) := by omega
      have w0 : IntKind.i64.wrap (m + 3 * (k : Int) + 1) = m + 3 * (k : Int) + 1 := wrapIn (by omega) (by omega)
      have w1 : IntKind.i64.wrap (m + 3 * (k : Int) + 1 + 1) = m + 3 * (k : Int) + 2 := by rw [wrapIn (by omega) (by omega)]; omega
      have w2 : IntKind.i64.wrap (m + 3 * (k : Int) + 2 + 1) = m + 3 * ((k + 1 : Nat) : Int) := by rw [wrapIn (by omega) (by omega)]; push_cast; omega
      go_wp2_with fail
      obtain ⟨xs', ho3, hx3⟩ := gput ho hlt (gmarks_length m n) HX.out (gmarks_at m n k hlt)
      go_roundw
      case rel => exact ⟨k + 1, xs', by omega, by go_num, rfl, ho3, hx3, grown_setCell (grown_setCell (grown_setCell hgk _ _) _ _) _ _⟩
      case measure => simp [intOf]; omega
    · obtain rfl : k = n := by omega
      go_wp2
      go_ret
      refine ⟨rfl, ⟨gmarks_length m k, ?_⟩, hgk⟩
      have hxl : xs.length = k * 3 := ho.1
      have e : xs = gvals (gmarks m k) := by
        apply List.ext_getElem?
        intro j
        by_cases hj : j < k * 3
        · exact hxs j hj
        · rw [List.getElem?_eq_none (by omega), List.getElem?_eq_none (by rw [gvals_length, gmarks_length]; omega)]
      rw [← e]
      exact ho

set_option maxHeartbeats 1000000 in
theorem heldGateS_any (A : Option Addr) (n c : Nat) (m : Int) (w : World) (h : HasG w A n (gmarks m n)) (hn : n ≤ 1048576) (hm0 : 0 ≤ m) (hm1 : m ≤ 16777216) :
    Calls Try.prog 77 #[.slice A n c, .int .i64 m] w fun e w' => e = .returned (.int .i64 (m + 3 * (n : Int))) ∧ w = w' := by
  go_enter Try.func77, Try.ntmps77
  go_wp2
  go_loop [1, 5] (fun q i => ∃ k : Nat, k ≤ n ∧ i = .int .i64 k ∧ q = .int .i64 (m + 3 * (k : Int))) (fun _ i => n - (intOf i).toNat)
  case atStart => exact ⟨0, Nat.zero_le _, rfl, by simp⟩
  case round =>
    obtain ⟨k, hk, rfl, rfl⟩ := hrel
    by_cases hlt : k < n
    · obtain ⟨ad, x, y, z, rfl, hx, hy, hz, HE⟩ := h.elem hlt
      obtain ⟨rfl, rfl, rfl⟩ : x = m + 3 * (k : Int) ∧ y = m + 3 * (k : Int) + 1 ∧ z = m + 3 * (k : Int) + 2 := by
        have e := HE.out.symm.trans (gmarks_at m n k hlt)
        injection e with e1 e2
        injection e2 with e2 e3
        exact ⟨e1, e2, e3⟩
      have k0 : (0 : Int) ≤ (k : Int) := by omega
      have k1 : (k : Int) < (n : Int) := by omega
      have w0 : IntKind.i64.wrap (m + 3 * (k : Int) + 1) = m + 3 * (k : Int) + 1 := wrapIn (by omega) (by omega)
      have w1 : IntKind.i64.wrap (m + 3 * (k : Int) + 1 + 1) = m + 3 * (k : Int) + 2 := by rw [wrapIn (by omega) (by omega)]; omega
      have w2 : IntKind.i64.wrap (m + 3 * (k : Int) + 2 + 1) = m + 3 * ((k + 1 : Nat) : Int) := by rw [wrapIn (by omega) (by omega)]; push_cast; omega
      go_wp2_with fail
      go_round
      case rel => exact ⟨k + 1, by omega, by go_num, rfl⟩
      case measure => simp [intOf]; omega
    · obtain rfl : k = n := by omega
      go_wp2
      go_ret
      exact ⟨rfl, rfl⟩

end Go.Proofs.Ytaohgbkhmgfnhaa
