/- The text of a circuit read back, by the model's reading and by the program's, as mathematics. -/
import Derived.Test.YtibaiajanggbdaaGreatDoorCirP5
import Derived.Test.YtibaiajanggbdaaGreatDoorCirQ3
namespace Go.Proofs.YtibaiajanggbdaaGreatDoor
open Go Go.RowKit
set_option maxRecDepth 100000

/-! ## numbers -/
theorem dec_snoc (b : UInt8) (d : Nat) (hd : Lib.digitVal b = some d) : ∀ (L : List UInt8) (acc n : Nat), Lib.decFrom acc L = some n → Lib.decFrom acc (L ++ [b]) = some (n * 10 + d) := by
  intro L
  induction L with
  | nil =>
    intro acc n h
    simp only [Lib.decFrom, Option.some.injEq] at h
    subst h
    simp [Lib.decFrom, hd]
  | cons x L ih =>
    intro acc n h
    simp only [List.cons_append, Lib.decFrom] at h ⊢
    cases hx : Lib.digitVal x with
    | none => simp [hx] at h
    | some e =>
      simp only [hx] at h ⊢
      exact ih _ n h
theorem digit_num (k : Nat) (hk : k < 10) : Lib.digitVal (UInt8.ofNat (48 + (k : Int)).toNat) = some k := by
  have := numB_digit k hk
  unfold Lib.digitVal
  rw [this]
  simp; omega
theorem dec_num (u : Nat) : Lib.decFrom 0 (bytesL (numL u)) = some u := by
  induction u using Nat.strongRecOn with
  | ind u ih =>
    by_cases h : u < 10
    · rw [numL_small h]
      have e : bytesL [48 + (u : Int)] = [UInt8.ofNat (48 + (u : Int)).toNat] := rfl
      rw [e]
      have := dec_snoc _ u (digit_num u h) [] 0 0 rfl
      simpa using this
    · rw [numL_big h, bytesL_append]
      have e : bytesL [48 + ((u % 10 : Nat) : Int)] = [UInt8.ofNat (48 + ((u % 10 : Nat) : Int)).toNat] := rfl
      rw [e]
      have := dec_snoc _ (u % 10) (digit_num (u % 10) (by omega)) _ 0 _ (ih (u / 10) (by omega))
      rw [this]
      congr 1
      omega
theorem num_cons (u : Nat) : ∃ x r, bytesL (numL u) = x :: r ∧ 48 ≤ x.toNat ∧ x.toNat ≤ 57 := by
  have hp := numL_pos u
  have hl := bytesL_length (numL u)
  have hd := (valL_num u).2
  cases h : bytesL (numL u) with
  | nil => rw [h] at hl; simp at hl; omega
  | cons x r =>
    have := hd x (by rw [h]; simp)
    simp only [digitB, decide_eq_true_eq] at this
    exact ⟨x, r, rfl, this⟩
theorem pNum_num (u : Nat) (hu : u ≤ 999999) : pNum (ofL (bytesL (numL u))) = some (u : Int) := by
  obtain ⟨x, r, e, h1, h2⟩ := num_cons u
  have hl := bytesL_length (numL u)
  have h6 := numL_length 5 u (by omega)
  have ha : Lib.atoi (bytesL (numL u)) = some (u : Int) := by
    have hd := dec_num u
    rw [e] at hd ⊢
    have n45 : (x == 45) = false := by
      cases h : x == 45 with
      | false => rfl
      | true => have : x = 45 := by simpa using h
                subst this; simp at h1
    have n43 : (x == 43) = false := by
      cases h : x == 43 with
      | false => rfl
      | true => have : x = 43 := by simpa using h
                subst this; simp at h1
    simp only [Lib.atoi, n45, n43, Bool.false_eq_true, if_false, Lib.decNat, List.isEmpty_cons, hd, Option.map_some]
  have hall : Lib.atoiAll (bytesL (numL u)) = .ok (u : Int) := by
    rw [Lib.atoiAll_short _ (by omega), ha]
    rfl
  rw [pNum, data_ofL, hall]
theorem readB_num (u : Nat) (hu : u ≤ 999999) : readB (ofL (bytesL (numL u))) = (u : Int) := by rw [readB, data_ofL, readN_num u hu]

end Go.Proofs.YtibaiajanggbdaaGreatDoor
