/- Texts cut at a byte, and decimal numbers read back, as mathematics. No condition beyond what each lemma names. -/
import Derived.Test.YtibaiajanggbdaaGreatDoorCirL2
import Derived.Lib.Split
import Derived.Lib.AtoiTie
namespace Go.Proofs.YtibaiajanggbdaaGreatDoor
open Go Go.RowKit
set_option maxRecDepth 100000

/-- A list of bytes cut at each c; acc is what stands before. -/
def cutL (c : UInt8) : List UInt8 → List UInt8 → List (List UInt8)
  | acc, [] => [acc]
  | acc, x :: r => if x = c then acc :: cutL c [] r else cutL c (acc ++ [x]) r
def joinL (c : UInt8) : List (List UInt8) → List UInt8
  | [] => []
  | p :: qs => p ++ qs.flatMap fun q => c :: q
def Free (c : UInt8) (p : List UInt8) : Prop := ∀ x ∈ p, x ≠ c

theorem cutL_free {c : UInt8} {p : List UInt8} : ∀ {acc r : List UInt8}, Free c p → cutL c acc (p ++ r) = cutL c (acc ++ p) r := by
  induction p with
  | nil => intro acc r _; simp
  | cons x p ih =>
    intro acc r h
    rw [List.cons_append, cutL, if_neg (h x (by simp)), ih (fun y hy => h y (by simp [hy]))]
    simp
theorem cutL_rest {c : UInt8} : ∀ {qs : List (List UInt8)} {acc : List UInt8}, (∀ q ∈ qs, Free c q) → cutL c acc (qs.flatMap fun q => c :: q) = acc :: qs := by
  intro qs
  induction qs with
  | nil => intro acc _; rfl
  | cons q qs ih =>
    intro acc h
    rw [List.flatMap_cons, List.cons_append, cutL, if_pos rfl, cutL_free (h q (by simp)), List.nil_append, ih (fun y hy => h y (by simp [hy]))]
theorem cutL_join {c : UInt8} {p : List UInt8} {qs : List (List UInt8)} (hp : Free c p) (hq : ∀ q ∈ qs, Free c q) : cutL c [] (joinL c (p :: qs)) = p :: qs := by
  rw [joinL, cutL_free hp, List.nil_append, cutL_rest hq]
theorem cutL_length (c : UInt8) : ∀ (L acc : List UInt8), (cutL c acc L).length ≤ L.length + 1 := by
  intro L
  induction L with
  | nil => intro acc; simp [cutL]
  | cons x r ih =>
    intro acc
    rw [cutL]
    split
    · have := ih []; simp; omega
    · have := ih (acc ++ [x]); simp; omega
/-- A step of the loop that cuts. -/
theorem cutL_hit {c : UInt8} {L : List UInt8} {i f : Nat} (hi : i < L.length) (hx : L[i]'hi = c) (_hf : f ≤ i) : cutL c ((L.take i).drop f) (L.drop i) = ((L.drop f).take (i - f)) :: cutL c ((L.take (i + 1)).drop (i + 1)) (L.drop (i + 1)) := by
  rw [List.drop_eq_getElem_cons hi, cutL, if_pos hx]
  have e : (L.take (i + 1)).drop (i + 1) = [] := List.drop_eq_nil_of_le (by simp; omega)
  rw [e, List.drop_take]
theorem cutL_miss {c : UInt8} {L : List UInt8} {i f : Nat} (hi : i < L.length) (hx : L[i]'hi ≠ c) (hf : f ≤ i) : cutL c ((L.take i).drop f) (L.drop i) = cutL c ((L.take (i + 1)).drop f) (L.drop (i + 1)) := by
  rw [List.drop_eq_getElem_cons hi, cutL, if_neg hx]
  congr 1
  rw [List.take_add_one, List.getElem?_eq_getElem hi, Option.toList_some, List.drop_append_of_le_length (by simp; omega)]

/-- The library cuts in the same way. -/
theorem occ_one {L : List UInt8} {c : UInt8} {i : Nat} (hi : i < L.length) : Lib.occAt L [c] i = decide (L[i]'hi = c) := by
  have e : (L.drop i).take [c].length = [L[i]'hi] := by rw [List.drop_eq_getElem_cons hi]; rfl
  rw [Lib.occAt_iff_take L [c] i (by simp; omega), e]
  by_cases h : L[i]'hi = c <;> simp [h]
theorem index_free {c : UInt8} {p : List UInt8} (h : Free c p) : Lib.index p [c] = -1 := by
  refine Lib.index_none fun j hj => ?_
  by_cases hl : j < p.length
  · rw [occ_one hl]
    simpa using h _ (List.getElem_mem hl)
  · cases ho : Lib.occAt p [c] j with
    | false => rfl
    | true =>
      rcases Lib.occAt_room ho with h1 | h1
      · simp at h1; omega
      · cases h1
theorem index_join {c : UInt8} {p r : List UInt8} (h : Free c p) : Lib.index (p ++ c :: r) [c] = (p.length : Int) := by
  refine Lib.index_first (by simp) ?_ fun j hj => ?_
  · rw [occ_one (by simp)]; simp
  · rw [occ_one (by simp; omega), List.getElem_append_left hj]
    simpa using h _ (List.getElem_mem hj)
theorem split_join {c : UInt8} : ∀ {qs : List (List UInt8)} {p : List UInt8}, Free c p → (∀ q ∈ qs, Free c q) → Lib.splitK [c] 0 (Lib.count (joinL c (p :: qs)) [c]) (joinL c (p :: qs)) = p :: qs := by
  intro qs
  induction qs with
  | nil =>
    intro p hp _
    have e : joinL c [p] = p := by simp [joinL]
    rw [e, Lib.count_miss (index_free hp)]
    rfl
  | cons q qs ih =>
    intro p hp hq
    have e : joinL c (p :: q :: qs) = p ++ c :: joinL c (q :: qs) := by simp [joinL]
    have hi := index_join (r := joinL c (q :: qs)) hp
    have hd : (p ++ c :: joinL c (q :: qs)).drop (p.length + [c].length) = joinL c (q :: qs) := by
      rw [List.drop_append]
      simp
    rw [e, Lib.count_hit (by simp) hi, hd, Nat.add_comm, Lib.splitK, if_neg (by rw [hi]; simp), hi]
    simp only [Int.toNat_natCast, Nat.add_zero]
    rw [hd, ih (hq q (by simp)) (fun y hy => hq y (by simp [hy]))]
    simp

/-- A number read from digits. -/
def valL (L : List UInt8) : Nat := L.foldl (fun n x => 10 * n + (x.toNat - 48)) 0
def digitB (x : UInt8) : Bool := decide (48 ≤ x.toNat ∧ x.toNat ≤ 57)
theorem valL_snoc (L : List UInt8) (x : UInt8) : valL (L ++ [x]) = 10 * valL L + (x.toNat - 48) := by simp [valL, List.foldl_append]
theorem numB_digit (k : Nat) (hk : k < 10) : (UInt8.ofNat (48 + (k : Int)).toNat).toNat = 48 + k := by
  rw [show (48 + (k : Int)).toNat = 48 + k by omega, UInt8.toNat_ofNat']
  omega
theorem valL_num (u : Nat) : valL (bytesL (numL u)) = u ∧ ∀ x ∈ bytesL (numL u), digitB x = true := by
  induction u using Nat.strongRecOn with
  | ind u ih =>
    by_cases h : u < 10
    · rw [numL_small h]
      have e : bytesL [48 + (u : Int)] = [UInt8.ofNat (48 + (u : Int)).toNat] := rfl
      rw [e]
      have hd := numB_digit u h
      refine ⟨?_, fun x hx => ?_⟩
      · simp only [valL, List.foldl_cons, List.foldl_nil, hd]; omega
      · simp only [List.mem_singleton] at hx
        subst hx
        simp only [digitB, decide_eq_true_eq, hd]; omega
    · rw [numL_big h, bytesL_append]
      have e : bytesL [48 + ((u % 10 : Nat) : Int)] = [UInt8.ofNat (48 + ((u % 10 : Nat) : Int)).toNat] := rfl
      have hd := numB_digit (u % 10) (by omega)
      obtain ⟨i1, i2⟩ := ih (u / 10) (by omega)
      rw [e]
      refine ⟨?_, fun x hx => ?_⟩
      · rw [valL_snoc, i1, hd]; omega
      · rcases List.mem_append.1 hx with hx | hx
        · exact i2 x hx
        · simp only [List.mem_singleton] at hx
          subst hx
          simp only [digitB, decide_eq_true_eq, hd]; omega
theorem num_head (u : Nat) (hu : 1 ≤ u) : ∀ x, (bytesL (numL u)).head? = some x → x ≠ 48 := by
  induction u using Nat.strongRecOn with
  | ind u ih =>
    intro x hx
    by_cases h : u < 10
    · rw [numL_small h] at hx
      have e : bytesL [48 + (u : Int)] = [UInt8.ofNat (48 + (u : Int)).toNat] := rfl
      rw [e] at hx
      simp only [List.head?_cons, Option.some.injEq] at hx
      intro e
      have hd := numB_digit u h
      rw [hx, e] at hd
      have : (48 : UInt8).toNat = 48 := rfl
      omega
    · rw [numL_big h, bytesL_append] at hx
      have hp := numL_pos (u / 10)
      have hne : bytesL (numL (u / 10)) ≠ [] := fun e => by
        have := congrArg List.length e
        rw [bytesL_length, List.length_nil] at this
        omega
      obtain ⟨y, ys, e⟩ := List.exists_cons_of_ne_nil hne
      rw [e] at hx
      exact ih (u / 10) (by omega) (by omega) x (by rw [e]; simpa using hx)
/-- What the model reads. -/
def readN (L : List UInt8) : Int := if 1 ≤ L.length ∧ L.length ≤ 6 ∧ ¬ (L.head? = some 48 ∧ 1 < L.length) ∧ L.all digitB = true then (valL L : Int) else -1
theorem readN_num (u : Nat) (hu : u ≤ 999999) : readN (bytesL (numL u)) = (u : Int) := by
  have h1 := numL_pos u
  have h2 := numL_length 5 u (by omega)
  have hl := bytesL_length (numL u)
  obtain ⟨v1, v2⟩ := valL_num u
  rw [readN, if_pos, v1]
  refine ⟨by omega, by omega, ?_, List.all_eq_true.2 v2⟩
  rintro ⟨a, b⟩
  by_cases h : 1 ≤ u
  · exact num_head u h _ a rfl
  · obtain rfl : u = 0 := by omega
    rw [hl, numL_small (by decide)] at b
    simp at b

end Go.Proofs.YtibaiajanggbdaaGreatDoor
