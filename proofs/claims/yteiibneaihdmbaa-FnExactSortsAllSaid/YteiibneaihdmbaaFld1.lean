/- What the tests of chapter 2 do: whether a number is a prime up to 251, and whether all of a list are elements of its field, the program's and the model's. For slices of at most 16777216 elements. -/
import Derived.Test.YteiibneaihdmbaaFldMath
import Derived.Test.YteiibneaihdmbaaGen1
namespace Go.Proofs.Yteiibneaihdmbaa
open Go.RowKit
set_option maxRecDepth 100000

theorem sq16 {k : Nat} (h : k ≤ 16) : 0 ≤ (k : Int) * (k : Int) ∧ (k : Int) * (k : Int) ≤ 256 := by
  have h1 : (0 : Int) ≤ k := by omega
  have h2 : (k : Int) ≤ 16 := by omega
  exact ⟨Int.mul_nonneg h1 h1, by have := Int.mul_le_mul h2 h2 h1 (by omega); omega⟩
theorem primeB_mk {p : Int} {k : Nat} (h2 : 2 ≤ p) (h251 : p ≤ 251) (hk : ¬ (k : Int) * k ≤ p) (h : ∀ d : Nat, d < k → 2 ≤ d → p % d ≠ 0) : primeB p = true := by
  refine decide_eq_true ⟨h2, h251, fun d _ hd hle => ?_⟩
  refine h d ?_ hd
  refine Nat.lt_of_not_le fun hkd => hk ?_
  have h1 : (k : Int) ≤ d := by omega
  have := Int.mul_le_mul h1 h1 (by omega) (by omega)
  omega
theorem primeB_no {p : Int} {k : Nat} (hk : 2 ≤ k) (hk16 : k < 16) (hle : (k : Int) * k ≤ p) (h : p % k = 0) : primeB p = false := by
  refine decide_eq_false fun hp => hp.2.2 k hk16 hk hle h
theorem lt16 {p : Int} {k : Nat} (h : p ≤ 251) (hle : (k : Int) * k ≤ p) : k < 16 := by
  refine Nat.lt_of_not_le fun h1 => ?_
  have h2 : (16 : Int) ≤ k := by omega
  have := Int.mul_le_mul h2 h2 (by omega) (by omega)
  omega

/-- All of zs are elements of the field of p. -/
def elsIn (p : Int) (zs : List Int) : Bool := primeB p && allIn 0 (p - 1) zs
theorem elsIn_yes {p : Int} {zs : List Int} (h : elsIn p zs = true) : primeB p = true ∧ ∀ k, k < zs.length → 0 ≤ zs.getD k 0 ∧ zs.getD k 0 < p := by
  unfold elsIn at h
  rw [Bool.and_eq_true] at h
  refine ⟨h.1, fun k hk => ?_⟩
  have := allIn_yes h.2 k hk
  omega
theorem elsIn_mk {p : Int} {zs : List Int} (hp : primeB p = true) (h : ∀ k, k < zs.length → 0 ≤ zs.getD k 0 ∧ zs.getD k 0 < p) : elsIn p zs = true := by
  unfold elsIn
  rw [Bool.and_eq_true]
  exact ⟨hp, allIn_mk fun k hk => by have := h k hk; omega⟩

/-- A list that was just laid. -/
theorem hasNew (w : World) (zs : List Int) (e : Nat) : Has (w.alloc (.cells (zs.map (Value.int .i64)).toArray e)) (some ⟨w.heap.size, 0, none⟩) zs.length zs := by
  refine ⟨rfl, fun hn => ⟨_, rfl, by rw [World.size_alloc]; exact Nat.lt_succ_self _, fun k hk => ?_⟩⟩
  have e : (⟨w.heap.size, 0, none⟩ : Addr).add k = ⟨w.heap.size, k, none⟩ := by simp [Addr.add]; omega
  rw [e, World.cell?_alloc_new]
  simp [hk]

end Go.Proofs.Yteiibneaihdmbaa
