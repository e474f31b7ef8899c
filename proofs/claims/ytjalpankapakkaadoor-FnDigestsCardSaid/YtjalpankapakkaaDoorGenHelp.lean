/- What the helpers of the general laws do: the test of sizes, the comparison of lists, the sum and the residue; and the slice of bytes that comes in. -/
import Derived.Test.YtjalpankapakkaaDoorCur
import Derived.Test.YtjalpankapakkaaDoorClose
import Derived.Test.YtjalpankapakkaaDoorBits7
namespace Go.Proofs.YtjalpankapakkaaDoor
open Go.ChangeShapes Go.WideShapes Go.ChangeAt Go.RowKit

theorem cellsByte : Tryd.prog.cellsOf 5 = 1 := by kernel_rfl

theorem openBytes {H : Type} {enc : TypeId × Value → H} {W : World} {base : Nat} {v : Value} {d : DataW H} {ps : List MemPlace} (hv : Value.okWide Tryd.prog W .any base 22 v)
    (h : DataW.Trod enc Tryd.prog W 0 (fun _ => true) true 22 v d ps) :
    ∃ (a : Option Addr) (n c : Nat) (bs : List Int), v = .slice a n c ∧ HasB W a n bs ∧ n ≤ maxLen := by
  obtain ⟨fuel, hf⟩ := h
  obtain ⟨a0, n0, c0, rfl⟩ := okWide_slice Tryd.underlying22 hv
  have hcs : (Value.slice a0 n0 c0).cells.toList = [.slice a0 n0 c0] := rfl
  rw [hcs] at hf
  rcases open_ints Tryd.underlying22 Tryd.underlying5 cellsByte hf with ⟨e, _⟩ | ⟨a, len, cap, zs, e, _, hl, hm, hlen, ex, hc, hwf⟩
  · exact ⟨none, 0, 0, [], by simpa using e, ⟨rfl, fun h => absurd h (by omega), fun k hk => absurd hk (by omega)⟩, Nat.zero_le _⟩
  · simp only [if_true] at hlen
    refine ⟨some a, len, cap, zs.take len, by simpa using e, ⟨by rw [List.length_take]; omega, fun hn => ⟨a, rfl, ?_, fun k hk => ?_⟩, fun k hk => ?_⟩, by omega⟩
    · have h0 := World.block_lt_of_cell? W _ (hc 0 (by omega))
      rwa [addBlock] at h0
    · rw [hc k (by omega)]
      simp [List.getD, hk]
    · have hz := hwf zs[k] (List.getElem_mem (by omega))
      have e1 : (zs.take len).getD k 0 = zs[k] := by simp [List.getD, hk, List.getElem?_eq_getElem (show k < zs.length by omega)]
      rw [e1]
      have h1 : IntKind.u8.min = 0 := rfl
      have h2 : IntKind.u8.max = 255 := rfl
      simp only [Lit.wf, Bool.and_eq_true, decide_eq_true_eq] at hz
      omega

/-- Some bool, and nothing has turned. -/
def SomeBool (w : World) (e : Ending) (w' : World) : Prop := ∃ b : Bool, e = .returned (.bool b) ∧ w = w'

set_option maxHeartbeats 400000 in
theorem big_any (A B : Option Addr) (n m c d : Nat) (w : World) (hn : n ≤ maxLen) (_hm : m ≤ maxLen) :
    Calls Tryd.prog 5 #[.slice A n c, .slice B m d] w fun e w' => SomeBool w e w' := by
  unfold maxLen at hn
  by_cases h : 1048576 < n
  · go_enter Tryd.func5, Tryd.ntmps5
    go_wp2
    go_ret
    exact ⟨_, rfl, rfl⟩
  · go_enter Tryd.func5, Tryd.ntmps5
    go_wp2
    go_ret
    exact ⟨_, rfl, rfl⟩

set_option maxHeartbeats 400000 in
theorem sameInts_same (A B : Option Addr) (n n' c d : Nat) (zs : List Int) (w : World) (ha : Has w A n zs) (hb : Has w B n' zs) (hn : n ≤ 16777216) :
    Calls Tryd.prog 9 #[.slice A n c, .slice B n' d] w fun e w' => e = .returned (.bool true) ∧ Below w.heap.size w w' := by
  obtain rfl : n = n' := ha.1.symm.trans hb.1
  go_enter Tryd.func9, Tryd.ntmps9
  go_wp2
  go_loopw [13] (fun i wr => ∃ k : Nat, k ≤ n ∧ i = .int .i64 k ∧ Below w.heap.size w wr) (fun i _ => n - (intOf i).toNat)
  case atStart => exact ⟨0, Nat.zero_le _, rfl, Below.refl _ _⟩
  case round =>
    obtain ⟨k, hk, rfl, hbk⟩ := hrel
    by_cases hlt : k < n
    · obtain ⟨ad, rfl, hc⟩ := (ha.below hbk).at_ hlt
      obtain ⟨bd, rfl, hd⟩ := (hb.below hbk).at_ hlt
      have k0 : (0 : Int) ≤ (k : Int) := by omega
      have k1 : (k : Int) < (n : Int) := by omega
      go_wp2
      go_quiet (fail)
      go_wp2
      go_roundw
      case rel => exact ⟨k + 1, by omega, by go_num, below_drewN hbk _⟩
      case measure => simp [intOf]; omega
    · go_wp2
      go_ret
      exact ⟨rfl, hbk⟩

/-- Two lists that came out of the reader. -/
def TwoLists (w w' : World) (e : Ending) : Prop :=
  ∃ R k c R' k' c', e = .returned (.tuple #[.slice R k c, .slice R' k' c']) ∧ (∃ xs, Has w' R k xs) ∧ (∃ ys, Has w' R' k' ys) ∧ k ≤ 100 ∧ k' ≤ 100 ∧ Below w.heap.size w w'

/-- A list and a number that came out of the reader. -/
def ListInt (w w' : World) (e : Ending) : Prop :=
  ∃ R k c x, e = .returned (.tuple #[.slice R k c, .int .i64 x]) ∧ (∃ xs, Has w' R k xs) ∧ k ≤ 100 ∧ -1000000 ≤ x ∧ x ≤ 1000000 ∧ Below w.heap.size w w'

end Go.Proofs.YtjalpankapakkaaDoor
