/- Sorting networks as mathematics: valid networks, a list after steps, the first list of zeros and ones that is not sorted, needless steps. -/
import Derived.Test.YteiibneaihdmbaaSo1
import Derived.Test.YteiibneaihdmbaaRet
import Derived.Test.YteiibneaihdmbaaBitsAll
import Derived.Deep.DeepCutAuto
import Derived.Deep.CutBlock
namespace Go.Proofs.Yteiibneaihdmbaa
open Go Go.RowKit
set_option maxRecDepth 100000

def stepOk (n : Int) (s : St) : Bool := decide (0 ≤ s.1) && (decide (s.1 < s.2) && decide (s.2 < n))
def okTo (n : Int) (l : List St) : Nat → Bool
  | 0 => true
  | k + 1 => okTo n l k && stepOk n (l.getD k st0)
def netB (n : Int) (l : List St) : Bool := (decide (1 ≤ n) && decide (n ≤ 12)) && (decide (l.length ≤ 60) && okTo n l l.length)
def m_IsNetwork (n : Int) (l : List St) : Bool := netB n l
theorem okTo_at {n : Int} {l : List St} : ∀ {k : Nat}, okTo n l k = true → ∀ j, j < k → stepOk n (l.getD j st0) = true
  | 0, _, j, hj => by omega
  | k + 1, h, j, hj => by
    rw [okTo, Bool.and_eq_true] at h
    by_cases e : j = k
    · subst e; exact h.2
    · exact okTo_at h.1 j (by omega)
theorem okTo_no {n : Int} {l : List St} {k : Nat} (h : stepOk n (l.getD k st0) = false) : ∀ m, k < m → okTo n l m = false
  | 0, hm => by omega
  | m + 1, hm => by
    rw [okTo]
    by_cases e : k = m
    · subst e; rw [h, Bool.and_false]
    · rw [okTo_no h m (by omega), Bool.false_and]
theorem okTo_next {n : Int} {l : List St} {k : Nat} (h : okTo n l k = true) (h1 : stepOk n (l.getD k st0) = true) : okTo n l (k + 1) = true := by rw [okTo, h, h1]; rfl
/-- A valid network on n lines. -/
structure Net (n : Nat) (l : List St) : Prop where
  one : 1 ≤ n
  twelve : n ≤ 12
  short : l.length ≤ 60
  ok : ∀ k, k < l.length → 0 ≤ (l.getD k st0).1 ∧ (l.getD k st0).1 < (l.getD k st0).2 ∧ (l.getD k st0).2 < (n : Int)
theorem net_yes {n : Int} {l : List St} (h : netB n l = true) : ∃ N : Nat, n = (N : Int) ∧ Net N l := by
  simp only [netB, Bool.and_eq_true, decide_eq_true_eq] at h
  obtain ⟨⟨h1, h2⟩, h3, h4⟩ := h
  refine ⟨n.toNat, by omega, by omega, by omega, h3, fun k hk => ?_⟩
  have := okTo_at h4 k hk
  simp only [stepOk, Bool.and_eq_true, decide_eq_true_eq] at this
  omega

/-! ## a list after steps -/
def swaps (s : St) (x : List Int) : Bool := decide (x.getD s.2.toNat 0 < x.getD s.1.toNat 0)
def exch (s : St) (x : List Int) : List Int := if swaps s x = true then (x.set s.1.toNat (x.getD s.2.toNat 0)).set s.2.toNat (x.getD s.1.toNat 0) else x
def aft (l : List St) (x : List Int) : Nat → List Int
  | 0 => x
  | k + 1 => exch (l.getD k st0) (aft l x k)
def didAt (l : List St) (x : List Int) (k : Nat) : Bool := swaps (l.getD k st0) (aft l x k)
theorem exch_length (s : St) (x : List Int) : (exch s x).length = x.length := by unfold exch; split <;> simp
theorem aft_length (l : List St) (x : List Int) : ∀ k, (aft l x k).length = x.length
  | 0 => rfl
  | k + 1 => by rw [aft, exch_length, aft_length l x k]
theorem exch_yes {s : St} {x : List Int} (h : swaps s x = true) : exch s x = (x.set s.1.toNat (x.getD s.2.toNat 0)).set s.2.toNat (x.getD s.1.toNat 0) := by rw [exch, if_pos h]
theorem exch_no {s : St} {x : List Int} (h : swaps s x = false) : exch s x = x := by rw [exch, if_neg (by rw [h]; decide)]

def sortAsk (n : Int) (l : List St) (x : List Int) : Bool := netB n l && (decide ((x.length : Int) = n) && allIn (-1000000) 1000000 x)
def m_SortWith (n : Int) (l : List St) (x : List Int) : List Int × Bool := if sortAsk n l x = true then (aft l x l.length, true) else ([], false)
/-! ## the first one -/
/-- The first of the numbers before n with p; n if there is none. -/
def fstTo (p : Nat → Bool) : Nat → Nat
  | 0 => 0
  | n + 1 => if fstTo p n < n then fstTo p n else if p n = true then n else n + 1
theorem fstTo_le (p : Nat → Bool) : ∀ n, fstTo p n ≤ n
  | 0 => Nat.le_refl _
  | n + 1 => by
    have := fstTo_le p n
    rw [fstTo]
    split
    · omega
    · split <;> omega
theorem fstTo_next {p : Nat → Bool} {n : Nat} (h : fstTo p n = n) (hn : p n = false) : fstTo p (n + 1) = n + 1 := by
  rw [fstTo, if_neg (by omega), if_neg (by rw [hn]; decide)]
theorem fstTo_here {p : Nat → Bool} {n : Nat} (h : fstTo p n = n) (hn : p n = true) : ∀ m, n < m → fstTo p m = n
  | 0, hm => by omega
  | m + 1, hm => by
    rw [fstTo]
    by_cases e : m = n
    · subst e; rw [if_neg (by omega), if_pos hn]
    · rw [fstTo_here h hn m (by omega), if_pos (by omega)]

/-! ## lists of zeros and ones -/
def bitsN (n k : Nat) : List Int := mapTo (fun j => (k : Int) / 2 ^ j % 2) n
theorem bitsN_length (n k : Nat) : (bitsN n k).length = n := mapTo_length _ _
/-- The first i elements are in order. -/
def ordTo (x : List Int) : Nat → Bool
  | 0 => true
  | i + 1 => ordTo x i && decide (x.getD (i - 1) 0 ≤ x.getD i 0)
theorem ordTo_no {x : List Int} {k : Nat} (h : x.getD k 0 < x.getD (k - 1) 0) : ∀ m, k < m → ordTo x m = false
  | 0, hm => by omega
  | m + 1, hm => by
    rw [ordTo]
    by_cases e : k = m
    · subst e; rw [decide_eq_false (by omega), Bool.and_false]
    · rw [ordTo_no h m (by omega), Bool.false_and]
theorem ordTo_next {x : List Int} {k : Nat} (h : ordTo x k = true) (h1 : x.getD (k - 1) 0 ≤ x.getD k 0) : ordTo x (k + 1) = true := by rw [ordTo, h]; simpa using h1
/-- The list of zeros and ones with number k is not sorted. -/
def unsN (n : Nat) (l : List St) (k : Nat) : Bool := !ordTo (aft l (bitsN n k) l.length) n
def firN (n : Nat) (l : List St) : Nat := fstTo (unsN n l) (2 ^ n)
def m_SortsAll (n : Int) (l : List St) : Bool × Bool := if netB n l = true then (decide (firN n.toNat l = 2 ^ n.toNat), true) else (false, false)
def m_FirstUnsorted (n : Int) (l : List St) : List Int × Bool := if netB n l = true ∧ firN n.toNat l < 2 ^ n.toNat then (bitsN n.toNat (firN n.toNat l), true) else ([], false)

/-! ## needless steps -/
/-- One of the first m lists of zeros and ones is changed by the k-th step. -/
def usedN (n : Nat) (l : List St) : Nat → Nat → Bool
  | 0, _ => false
  | m + 1, k => usedN n l m k || didAt l (bitsN n m) k
def needsN (n : Nat) (l : List St) (k : Nat) : Bool := usedN n l (2 ^ n) k
/-- The first k indices that are not in f. -/
def outsN (f : Nat → Bool) : Nat → List Int
  | 0 => []
  | k + 1 => if f k = true then outsN f k else outsN f k ++ [(k : Int)]
def keptT (f : Nat → Bool) (l : List St) : Nat → List St
  | 0 => []
  | k + 1 => if f k = true then keptT f l k ++ [l.getD k st0] else keptT f l k
def m_NeedlessSteps (n : Int) (l : List St) : List Int × Bool := if netB n l = true then (outsN (needsN n.toNat l) l.length, true) else ([], false)
def m_PruneNetwork (n : Int) (l : List St) : List St × Bool := if netB n l = true then (keptT (needsN n.toNat l) l l.length, true) else ([], false)
theorem outsN_length (f : Nat → Bool) : ∀ k, (outsN f k).length ≤ k
  | 0 => Nat.le_refl _
  | k + 1 => by have := outsN_length f k; rw [outsN]; split <;> simp <;> omega
theorem keptT_length (f : Nat → Bool) (l : List St) : ∀ k, (keptT f l k).length ≤ k
  | 0 => Nat.le_refl _
  | k + 1 => by have := keptT_length f l k; rw [keptT]; split <;> simp <;> omega
theorem outsN_mem (f : Nat → Bool) : ∀ (k j : Nat), (j : Int) ∈ outsN f k ↔ j < k ∧ f j = false
  | 0, j => by simp [outsN]
  | k + 1, j => by
    have ih := outsN_mem f k j
    rw [outsN]
    split
    · rename_i h
      rw [ih]
      constructor
      · rintro ⟨a, b⟩; exact ⟨by omega, b⟩
      · rintro ⟨a, b⟩
        refine ⟨?_, b⟩
        by_cases e : j = k
        · subst e; rw [h] at b; cases b
        · omega
    · rename_i h
      rw [List.mem_append, ih]
      simp only [List.mem_singleton]
      constructor
      · rintro (⟨a, b⟩ | e)
        · exact ⟨by omega, b⟩
        · have : j = k := by omega
          subst this
          exact ⟨by omega, by simpa using h⟩
      · rintro ⟨a, b⟩
        by_cases e : j = k
        · right; omega
        · left; exact ⟨by omega, b⟩

/-! ## insertion -/
/-- The steps of the lines i - 1 and i for i = k, .., k - j + 1. -/
def insRow (k : Nat) : Nat → List St
  | 0 => []
  | j + 1 => insRow k j ++ [((k : Int) - (j : Int) - 1, (k : Int) - (j : Int))]
/-- The steps for 1, .., k - 1. -/
def insTo : Nat → List St
  | 0 => []
  | k + 1 => insTo k ++ insRow k k
def m_InsertionNetwork (n : Int) : List St × Bool := if 1 ≤ n ∧ n ≤ 12 ∧ (insTo n.toNat).length ≤ 60 then (insTo n.toNat, true) else ([], false)
theorem insRow_length (k : Nat) : ∀ j, (insRow k j).length = j
  | 0 => rfl
  | j + 1 => by rw [insRow, List.length_append, insRow_length k j]; rfl

end Go.Proofs.Yteiibneaihdmbaa
