/- What the two AreBits do (the program's and the model's), and the model's tests of ranges: each answers whether all elements are in a range and there are few enough. For slices of at most 16777216 elements. -/
import Derived.Test.YteiibneaihdmbaaBase
namespace Go.Proofs.Yteiibneaihdmbaa
open Go.RowKit
set_option maxRecDepth 100000

/-- All elements lie between lo and hi. -/
def allIn (lo hi : Int) (zs : List Int) : Bool := zs.all fun z => decide (lo ≤ z) && decide (z ≤ hi)
/-- At most 'most' elements, each 0 or 1. -/
def good (most : Nat) (zs : List Int) : Bool := decide (zs.length ≤ most) && allIn 0 1 zs

theorem allIn_yes {lo hi : Int} {zs : List Int} (h : allIn lo hi zs = true) (k : Nat) (hk : k < zs.length) : lo ≤ zs.getD k 0 ∧ zs.getD k 0 ≤ hi := by
  unfold allIn at h
  rw [List.all_eq_true] at h
  have := h zs[k] (List.getElem_mem hk)
  simpa [List.getD, List.getElem?_eq_getElem hk] using this
theorem allIn_mk {lo hi : Int} {zs : List Int} (h : ∀ k, k < zs.length → lo ≤ zs.getD k 0 ∧ zs.getD k 0 ≤ hi) : allIn lo hi zs = true := by
  unfold allIn
  rw [List.all_eq_true]
  intro z hz
  obtain ⟨k, hk, rfl⟩ := List.getElem_of_mem hz
  have := h k hk
  simpa [List.getD, List.getElem?_eq_getElem hk] using this
theorem good_yes {m : Nat} {zs : List Int} (h : good m zs = true) : zs.length ≤ m ∧ ∀ k, k < zs.length → 0 ≤ zs.getD k 0 ∧ zs.getD k 0 ≤ 1 := by
  unfold good at h
  rw [Bool.and_eq_true, decide_eq_true_eq] at h
  exact ⟨h.1, allIn_yes h.2⟩
theorem good_mk {m : Nat} {zs : List Int} (h : zs.length ≤ m) (h' : ∀ k, k < zs.length → 0 ≤ zs.getD k 0 ∧ zs.getD k 0 ≤ 1) : good m zs = true := by
  unfold good
  rw [Bool.and_eq_true, decide_eq_true_eq]
  exact ⟨h, allIn_mk h'⟩

set_option maxHeartbeats 400000 in
theorem l1In_any (n lo hi : Int) (b : Bool) (w : World) (hb : (decide (lo ≤ n) && decide (n ≤ hi)) = b) :
    Calls Try.prog 98 #[.int .i64 n, .int .i64 lo, .int .i64 hi] w fun e w' => e = .returned (.bool b) ∧ w = w' := by
  subst hb
  by_cases h1 : lo ≤ n
  · by_cases h2 : n ≤ hi
    · go_enter Try.func98, Try.ntmps98
      go_wp2
      go_ret
      exact ⟨by simp [h1, h2], rfl⟩
    · go_enter Try.func98, Try.ntmps98
      go_wp2
      go_ret
      exact ⟨by simp [h2], rfl⟩
  · go_enter Try.func98, Try.ntmps98
    go_wp2
    go_ret
    exact ⟨by simp; omega, rfl⟩

set_option maxHeartbeats 400000 in
theorem l1All_any (A : Option Addr) (n c : Nat) (zs : List Int) (lo hi : Int) (b : Bool) (w : World) (h : Has w A n zs) (hn : n ≤ 16777216) (hb : allIn lo hi zs = b) :
    Calls Try.prog 91 #[.slice A n c, .int .i64 lo, .int .i64 hi] w fun e w' => e = .returned (.bool b) ∧ w = w' := by
  have HB := Lib.hid hb
  clear hb
  go_enter Try.func91, Try.ntmps91
  go_wp2
  go_loop [11] (fun i => ∃ k : Nat, k ≤ n ∧ i = .int .i64 k ∧ ∀ j, j < k → lo ≤ zs.getD j 0 ∧ zs.getD j 0 ≤ hi) (fun i => n - (intOf i).toNat)
  case atStart => exact ⟨0, Nat.zero_le _, rfl, fun j hj => absurd hj (by omega)⟩
  case round =>
    obtain ⟨k, hk, rfl, hin⟩ := hrel
    have HIN := Lib.hid hin
    clear hin
    by_cases hlt : k < n
    · obtain ⟨ad, rfl, hc⟩ := h.at_ hlt
      by_cases hz : lo ≤ zs.getD k 0 ∧ zs.getD k 0 ≤ hi
      · go_wp2_with (go_at_call 98; refine (l1In_any _ _ _ true _ (by simpa using hz)).mono ?_; rintro e w' ⟨rfl, rfl⟩)
        go_round
        case rel =>
          refine ⟨k + 1, by omega, by go_num, fun j hj => ?_⟩
          by_cases e : j = k
          · rw [e]; exact hz
          · exact HIN.out j (by omega)
        case measure => simp [intOf]; omega
      · go_wp2_with (go_at_call 98; refine (l1In_any _ _ _ false _ (by simpa using hz)).mono ?_; rintro e w' ⟨rfl, rfl⟩)
        go_ret
        refine ⟨?_, rfl⟩
        cases b with
        | false => rfl
        | true => exact absurd (allIn_yes HB.out k (by rw [h.1]; exact hlt)) hz
    · go_wp2
      go_ret
      refine ⟨?_, rfl⟩
      have := allIn_mk (lo := lo) (hi := hi) (zs := zs) (fun j hj => HIN.out j (by have := h.1; omega))
      rw [HB.out] at this
      subst this
      rfl

end Go.Proofs.Yteiibneaihdmbaa
