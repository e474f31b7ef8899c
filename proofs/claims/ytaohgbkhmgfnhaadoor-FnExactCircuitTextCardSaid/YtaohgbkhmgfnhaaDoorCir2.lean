/- The comparison, the marks and the size of a list of gates, in the exact laws. For lists of at most 1048576 gates. -/
import Derived.Test.YtaohgbkhmgfnhaaDoorCir1
import Derived.StillTailTactics
namespace Go.Proofs.YtaohgbkhmgfnhaaDoor
open Go.RowKit
set_option maxRecDepth 100000

set_option maxHeartbeats 400000 in
theorem szGateS_any (A : Option Addr) (n c : Nat) (x : Int) (w : World) (hx0 : 0 ≤ x) (hx : x ≤ 1048576) (hn : (n : Int) ≤ 9223372036854775807) :
    Calls Tryd.prog 9 #[.slice A n c, .int .i64 x] w fun e w' => e = .returned (.int .i64 (if x - n < 0 then -1 else x - n)) ∧ w = w' := by
  have hw : IntKind.i64.wrap (x - (n : Int)) = x - n := wrapIn (by omega) (by omega)
  by_cases h : x - n < 0
  · rw [if_pos h]
    go_enter Tryd.func9, Tryd.ntmps9
    go_wp2
    go_ret
    exact ⟨rfl, rfl⟩
  · rw [if_neg h]
    go_enter Tryd.func9, Tryd.ntmps9
    go_wp2
    go_ret
    exact ⟨rfl, rfl⟩

set_option maxRecDepth 100000 in
set_option maxHeartbeats 400000 in
theorem eqGateS_same (A B : Option Addr) (n n' c d : Nat) (gs : List Ga) (w : World) (ha : HasG w A n gs) (hb : HasG w B n' gs) (hn : n ≤ 16777216) :
    Calls Tryd.prog 19 #[.slice A n c, .slice B n' d] w fun e w' => e = .returned (.bool true) ∧ Below w.heap.size w w' := by
  obtain rfl : n = n' := ha.1.symm.trans hb.1
  go_enter Tryd.func19, Tryd.ntmps19
  go_wp2
  go_loopw [5] (fun i wr => ∃ k : Nat, k ≤ n ∧ i = .int .i64 k ∧ Below w.heap.size w wr) (fun i _ => n - (intOf i).toNat)
  case atStart => exact ⟨0, Nat.zero_le _, rfl, Below.refl _ _⟩
  case round =>
    obtain ⟨k, hk, rfl, hbk⟩ := hrel
    by_cases hlt : k < n
    · obtain ⟨ad, x, y, z, rfl, hx, hy, hz, HE⟩ := (ha.below hbk).elem hlt
      obtain ⟨bd, x', y', z', rfl, hx', hy', hz', HE'⟩ := (hb.below hbk).elem hlt
      obtain ⟨rfl, rfl, rfl⟩ : x' = x ∧ y' = y ∧ z' = z := by
        have e := HE.out.symm.trans HE'.out
        injection e with e1 e2
        injection e2 with e2 e3
        exact ⟨e1.symm, e2.symm, e3.symm⟩
      have k0 : (0 : Int) ≤ (k : Int) := by omega
      have k1 : (k : Int) < (n : Int) := by omega
      go_wp2_with fail
      go_still_tail 8, (by kernel_rfl)
      change wpList _ _ _ _ _ wr.drew
      have b2 : Below w.heap.size w wr.drew := ⟨hbk.os, hbk.tape, hbk.output, hbk.size, hbk.block⟩
      generalize wr.drew = w2 at b2 ⊢
      clear hx hy hz hx' hy' hz'
      go_wp2_with fail
      refine (eqGate_same x' y' z' w2).mono ?_
      rintro e w3 ⟨rfl, b3⟩
      go_wp2_with fail
      go_roundw
      case rel => exact ⟨k + 1, by omega, by go_num, b2.trans (b3.mono b2.size)⟩
      case measure => simp [intOf]; omega
    · go_wp2
      go_ret
      exact ⟨rfl, hbk⟩

/-- The marks m, m + 1, .. in the cells of n gates. -/
def gmarks (m : Int) (n : Nat) : List Ga := (List.range n).map fun (j : Nat) => (m + 3 * (j : Int), m + 3 * (j : Int) + 1, m + 3 * (j : Int) + 2)
theorem gmarks_length (m : Int) (n : Nat) : (gmarks m n).length = n := by simp [gmarks]
theorem gmarks_at (m : Int) (n k : Nat) (h : k < n) : (gmarks m n).getD k g0 = (m + 3 * (k : Int), m + 3 * (k : Int) + 1, m + 3 * (k : Int) + 2) := by
  simp [gmarks, List.getD, h]

end Go.Proofs.YtaohgbkhmgfnhaaDoor
