/- What the four helpers of the exact laws do with a slice of integers: copy it, compare two, write marks into one, and look whether the marks are still there. Each for slices of at most 16777216 elements. -/
import Derived.Test.YteiibneaihdmbaaBase
namespace Go.Proofs.Yteiibneaihdmbaa
open Go.RowKit
set_option maxRecDepth 100000

set_option maxHeartbeats 400000 in
theorem toIntS_any (A : Option Addr) (n c : Nat) (zs : List Int) (w : World) (h : Has w A n zs) (hn : n ≤ 16777216) :
    Calls Try.prog 30 #[.slice A n c] w fun e w' => ∃ A', e = .returned (.slice A' n n) ∧ Own w' w.heap.size A' n n zs ∧ Below w.heap.size w w' := by
  obtain ⟨i0, hi, hz0, hz1, hz2⟩ := info_parts infoInt
  have hvl : (vals zs).length = n := by rw [vals_length, h.1]
  go_enter Try.func30, Try.ntmps30
  go_wp2_with (at_make; refine wpList_make_full _ rfl _ _ 23 rfl w.heap.size 3 i0 (.int .i64 0) 1 Try.underlying23 hi hz0 hz1 .i64 .i64 _ _ n rfl rfl rfl rfl (by rw [hz2]; omega) (by simp only [maxLen]; omega) (Nat.le_refl _) ?_; intro w1 hown hgrow)
  have hb1 := belowOf hgrow
  have hf : Filled w1 w.heap.size 3 w.heap.size n (vals zs) (fun j => j < 0) := Filled.start hown _ (by intro j _; omega)
  clear hown hgrow
  go_loopw [4] (fun i wr => ∃ k : Nat, k ≤ n ∧ i = .int .i64 k ∧ Filled wr w.heap.size 3 w.heap.size n (vals zs) (fun j => j < k) ∧ Below w.heap.size w wr) (fun i _ => n - (intOf i).toNat)
  case atStart => exact ⟨0, Nat.zero_le _, rfl, hf, hb1⟩
  case round =>
    obtain ⟨k, hk, rfl, hfk, hbk⟩ := hrel
    by_cases hlt : k < n
    · obtain ⟨ad, rfl, hc⟩ := (h.below hbk).at_ hlt
      obtain ⟨u, hu⟩ := hfk.cell hlt
      have hfr := hfk.free k
      go_wp2
      go_roundw
      case rel =>
        refine ⟨k + 1, by omega, by go_num, ?_, hbk.setCell (Nat.le_refl _) _⟩
        exact hfk.put hlt (vals_at zs k (by rw [h.1]; exact hlt)) (by intro j _ hj; omega)
      case measure => simp [intOf]; omega
    · go_wp2
      go_ret
      refine ⟨some ⟨w.heap.size, 0, none⟩, rfl, ⟨h.1, hfk.full hvl (by intro j hj; omega)⟩, hbk⟩

set_option maxHeartbeats 400000 in
theorem eqIntS_same (A B : Option Addr) (n n' c d : Nat) (zs : List Int) (w : World) (ha : Has w A n zs) (hb : Has w B n' zs) (hn : n ≤ 16777216) :
    Calls Try.prog 32 #[.slice A n c, .slice B n' d] w fun e w' => e = .returned (.bool true) ∧ Below w.heap.size w w' := by
  obtain rfl : n = n' := ha.1.symm.trans hb.1
  go_enter Try.func32, Try.ntmps32
  go_wp2
  go_loopw [5] (fun i wr => ∃ k : Nat, k ≤ n ∧ i = .int .i64 k ∧ Below w.heap.size w wr) (fun i _ => n - (intOf i).toNat)
  case atStart => exact ⟨0, Nat.zero_le _, rfl, Below.refl _ _⟩
  case round =>
    obtain ⟨k, hk, rfl, hbk⟩ := hrel
    by_cases hlt : k < n
    · obtain ⟨ad, rfl, hc⟩ := (ha.below hbk).at_ hlt
      obtain ⟨bd, rfl, hd⟩ := (hb.below hbk).at_ hlt
      have k0 : (0 : Int) ≤ (k : Int) := by omega
      have k1 : (k : Int) < (n : Int) := by omega
      go_wp2
      go_quiet (fail)
      go_wp2
      go_roundw
      case rel => exact ⟨k + 1, by omega, by go_num, below_drewN hbk _⟩
      case measure => simp [intOf]; omega
    · go_wp2
      go_ret
      exact ⟨rfl, hbk⟩

/-- The marks m, m + 1, .. of a row of n cells. -/
def marks (m : Int) (n : Nat) : List Int := (List.range n).map fun (j : Nat) => m + (j : Int)
theorem marks_length (m : Int) (n : Nat) : (marks m n).length = n := by simp [marks]
theorem marks_at (m : Int) (n k : Nat) (h : k < n) : (marks m n).getD k 0 = m + (k : Int) := by
  simp [marks, List.getD, h]
theorem marks_vals (m : Int) (n k : Nat) (h : k < n) : (vals (marks m n))[k]? = some (.int .i64 (m + (k : Int))) := by
  rw [vals_at _ _ (by rw [marks_length]; exact h), marks_at _ _ _ h]

/-- Of the cells of a row the first k bear marks. -/
def Marked (w : World) (B : Nat) (A : Option Addr) (n c : Nat) (m : Int) (k : Nat) : Prop :=
  ∃ xs : List Value, w.ownsRow B 3 1 (.slice A n c) n xs ∧ ∀ j, j < k → xs[j]? = some (.int .i64 (m + (j : Int)))

section
variable {w : World} {B n c k : Nat} {A : Option Addr} {m : Int}
theorem Marked.start {zs : List Int} (h : Own w B A n c zs) (m : Int) : Marked w B A n c m 0 := ⟨_, h.2, by intro j hj; omega⟩
theorem Marked.at_ (h : Marked w B A n c m k) (hk : k < n) : ∃ g : Nat, A = some ⟨g, 0, none⟩ ∧ (∃ u, w.cell? ⟨g, k, none⟩ = some u) ∧ w.frozen? ⟨g, k, none⟩ = false := by
  obtain ⟨xs, ho, _⟩ := h
  have hl : xs.length = n := by simpa using ho.1
  obtain ⟨g, cap, hv, _, hlt⟩ := ho.form (by omega)
  have hA : A = some ⟨g, 0, none⟩ := by injection hv
  subst hA
  exact ⟨g, rfl, ⟨xs[k]'(by omega), by rw [ho.cellAt k (by omega)]; exact List.getElem?_eq_getElem _⟩, ho.frozenAt k⟩
theorem Marked.put {g : Nat} (h : Marked w B (some ⟨g, 0, none⟩) n c m k) (hk : k < n) : Marked (w.setCell ⟨g, k, none⟩ (.int .i64 (m + (k : Int)))) B (some ⟨g, 0, none⟩) n c m (k + 1) := by
  obtain ⟨xs, ho, hx⟩ := h
  have hl : xs.length = n := by simpa using ho.1
  refine ⟨_, (ho.stored k _).1, fun j hj => ?_⟩
  by_cases e : j = k
  · subst e
    rw [List.getElem?_set_self (by omega)]
  · rw [List.getElem?_set_ne (by omega)]
    exact hx j (by omega)
theorem Marked.full (h : Marked w B A n c m n) : Own w B A n c (marks m n) := by
  obtain ⟨xs, ho, hx⟩ := h
  have hl : xs.length = n := by simpa using ho.1
  refine ⟨marks_length _ _, ?_⟩
  have : xs = vals (marks m n) := by
    apply List.ext_getElem?
    intro j
    by_cases hj : j < n
    · rw [hx j hj, marks_vals _ _ _ hj]
    · rw [List.getElem?_eq_none (by omega), List.getElem?_eq_none (by rw [vals_length, marks_length]; omega)]
  rw [← this]
  exact ho
end

theorem grown_setCell {a w : World} {g : Nat} (h : a.grownBy w (some g)) (k : Nat) (u : Value) : a.grownBy (w.setCell ⟨g, k, none⟩ u) (some g) :=
  ⟨h.os, h.tape, h.output, by simpa [World.setCell] using h.size, fun i hi hne => (Below.heap_setCell w ⟨g, k, none⟩ u i (fun e => hne (by rw [e]))).trans (h.block i hi hne)⟩

set_option maxHeartbeats 400000 in
theorem markIntS_any (A : Option Addr) (B n c : Nat) (m : Int) (zs : List Int) (w : World) (h : Own w B A n c zs) (hn : n ≤ 16777216) (hm0 : 0 ≤ m) (hm1 : m ≤ 16777216) :
    Calls Try.prog 34 #[.slice A n c, .int .i64 m] w fun e w' => e = .returned (.int .i64 (m + (n : Int))) ∧ Own w' B A n c (marks m n) ∧ w.grownBy w' (blockOf A) := by
  go_enter Try.func34, Try.ntmps34
  go_wp2
  go_loopw [1, 5] (fun q i wr => ∃ k : Nat, k ≤ n ∧ i = .int .i64 k ∧ q = .int .i64 (m + (k : Int)) ∧ Marked wr B A n c m k ∧ w.grownBy wr (blockOf A)) (fun _ i _ => n - (intOf i).toNat)
  case atStart => exact ⟨0, Nat.zero_le _, rfl, by simp, Marked.start h m, World.grownBy.refl _ _⟩
  case round =>
    obtain ⟨k, hk, rfl, rfl, hmk, hgk⟩ := hrel
    by_cases hlt : k < n
    · obtain ⟨g, rfl, ⟨u, hu⟩, hfr⟩ := hmk.at_ hlt
      go_wp2
      go_roundw
      case rel => exact ⟨k + 1, by omega, by go_num, by go_num, hmk.put hlt, grown_setCell hgk _ _⟩
      case measure => simp [intOf]; omega
    · obtain rfl : k = n := by omega
      go_wp2
      go_ret
      exact ⟨rfl, hmk.full, hgk⟩

set_option maxHeartbeats 400000 in
theorem heldIntS_any (A : Option Addr) (n c : Nat) (m : Int) (w : World) (h : Has w A n (marks m n)) (hn : n ≤ 16777216) (hm0 : 0 ≤ m) (hm1 : m ≤ 16777216) :
    Calls Try.prog 35 #[.slice A n c, .int .i64 m] w fun e w' => e = .returned (.int .i64 (m + (n : Int))) ∧ Below w.heap.size w w' := by
  go_enter Try.func35, Try.ntmps35
  go_wp2
  go_loopw [1, 5] (fun q i wr => ∃ k : Nat, k ≤ n ∧ i = .int .i64 k ∧ q = .int .i64 (m + (k : Int)) ∧ Below w.heap.size w wr) (fun _ i _ => n - (intOf i).toNat)
  case atStart => exact ⟨0, Nat.zero_le _, rfl, by simp, Below.refl _ _⟩
  case round =>
    obtain ⟨k, hk, rfl, rfl, hbk⟩ := hrel
    by_cases hlt : k < n
    · obtain ⟨ad, rfl, hc⟩ := (h.below hbk).at_ hlt
      rw [marks_at _ _ _ hlt] at hc
      go_wp2
      go_roundw
      case rel => exact ⟨k + 1, by omega, by go_num, by go_num, hbk⟩
      case measure => simp [intOf]; omega
    · obtain rfl : k = n := by omega
      go_wp2
      go_ret
      exact ⟨rfl, hbk⟩

end Go.Proofs.Yteiibneaihdmbaa
