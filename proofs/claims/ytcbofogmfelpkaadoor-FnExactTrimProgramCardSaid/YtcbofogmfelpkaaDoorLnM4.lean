/- The model's test of a program is the program's. No condition. -/
import Derived.Test.YtcbofogmfelpkaaDoorLnM3
import Derived.Test.YtcbofogmfelpkaaDoorLnI20
import Derived.Test.YtcbofogmfelpkaaDoorLnG5
namespace Go.Proofs.YtcbofogmfelpkaaDoor
open Go Go.RowKit
set_option maxRecDepth 100000

theorem kind_of_width {x : Ln} {w : List Int} (h : 1 ≤ widthK x w) : x.kind = 1 ∨ x.kind = 2 ∨ x.kind = 3 ∨ x.kind = 4 ∨ x.kind = 5 ∨ x.kind = 6 := by
  unfold widthK at h
  split at h
  · omega
  · split at h
    · omega
    · split at h
      · omega
      · split at h
        · omega
        · split at h
          · omega
          · omega
theorem twoW_op {o : ByteArray} {a b : Int} (h : 1 ≤ twoW o a b) : opIx o ≠ 8 := by
  intro e
  rw [twoW, if_pos (.inr (.inl e))] at h
  omega
theorem ok_of_width {x : Ln} {w : List Int} (hn : x.kind = 6 ∨ nameOk x.name = true) (hf : fieldsOk x = true) (h : 1 ≤ widthK x w) : lineOk x = true := by
  have hk := kind_of_width h
  obtain ⟨kd, nm, o, ps, py, wd, vl⟩ := x
  simp only [fieldsOk, Bool.and_eq_true, decide_eq_true_eq, Bool.or_eq_true, beq_iff_eq, decide_eq_false_iff_not] at hf
  obtain ⟨⟨f1, f2⟩, f3, f4, f5, f6⟩ := hf
  simp only at hk hn
  rw [lineOk, Bool.and_eq_true, decide_eq_true_eq]
  refine ⟨⟨by show 0 ≤ kd ∧ kd < 7; omega, f6⟩, ?_⟩
  show kindOk kd nm o py wd vl = true
  rcases hk with rfl | rfl | rfl | rfl | rfl | rfl
  · have hn' := hn.resolve_left (by omega)
    have f2' := f2.resolve_left (by omega)
    have f5' := f5.resolve_left (by omega)
    rw [widthK, if_pos rfl] at h
    split at h
    · rename_i hc
      simp only at hc
      obtain ⟨⟨a, b⟩, c, d⟩ := hc
      simp only [kindOk, if_true, Bool.and_eq_true, decide_eq_true_eq]
      exact ⟨hn', f2', ⟨a, by omega⟩, ⟨c, d⟩, f5'⟩
    · omega
  · have hn' := hn.resolve_left (by omega)
    have f2' := f2.resolve_left (by omega)
    have f3' := f3.resolve_left (by omega)
    rw [widthK, if_neg (by simp), if_pos rfl] at h
    split at h
    · rename_i hc
      simp only at hc
      obtain ⟨⟨a, b⟩, c, d⟩ := hc
      rw [kindOk, if_neg (by omega), if_pos rfl]
      simp only [Bool.and_eq_true, decide_eq_true_eq]
      exact ⟨hn', f2', f3', ⟨a, b⟩, c, by omega⟩
    · omega
  · have hn' := hn.resolve_left (by omega)
    have f3' := f3.resolve_left (by omega)
    have f4' := (f4.resolve_left (by omega)).resolve_left (by omega)
    have f5' := f5.resolve_left (by omega)
    rw [widthK, if_neg (by simp), if_neg (by simp), if_pos rfl] at h
    have h8 := twoW_op h
    rw [kindOk, if_neg (by omega), if_neg (by omega), if_pos rfl]
    simp only [plainL, Bool.and_eq_true, decide_eq_true_eq]
    exact ⟨hn', h8, f3', f4', f5'⟩
  · have hn' := hn.resolve_left (by omega)
    have f2' := f2.resolve_left (by omega)
    have f3' := f3.resolve_left (by omega)
    have f4' := (f4.resolve_left (by omega)).resolve_left (by omega)
    have f5' := f5.resolve_left (by omega)
    rw [kindOk, if_neg (by omega), if_neg (by omega), if_neg (by omega), if_pos (.inl rfl)]
    simp only [plainL, Bool.and_eq_true, decide_eq_true_eq]
    exact ⟨hn', f2', f3', f4', f5'⟩
  · have hn' := hn.resolve_left (by omega)
    have f2' := f2.resolve_left (by omega)
    have f3' := f3.resolve_left (by omega)
    have f4' := (f4.resolve_left (by omega)).resolve_left (by omega)
    have f5' := f5.resolve_left (by omega)
    rw [kindOk, if_neg (by omega), if_neg (by omega), if_neg (by omega), if_pos (.inr rfl)]
    simp only [plainL, Bool.and_eq_true, decide_eq_true_eq]
    exact ⟨hn', f2', f3', f4', f5'⟩
  · have f1' := f1.resolve_left (by omega)
    have f2' := f2.resolve_left (by omega)
    have f3' := f3.resolve_left (by omega)
    have f4' := (f4.resolve_left (by omega)).resolve_left (by omega)
    have f5' := f5.resolve_left (by omega)
    rw [kindOk, if_neg (by omega), if_neg (by omega), if_neg (by omega), if_neg (by omega), if_pos rfl]
    simp only [plainL, Bool.and_eq_true, decide_eq_true_eq]
    exact ⟨f1', f2', f3', f4', f5'⟩
theorem given_of_find {pre : List Ln} {s : ByteArray} (h : 0 ≤ findL pre s) : givenB pre s = true := by
  cases e : givenB pre s
  · rw [findL_not e] at h; omega
  · rfl
theorem not_given {pre : List Ln} {s : ByteArray} (h : findL pre s < 0) : givenB pre s = false := by
  cases e : givenB pre s
  · rfl
  · have := (findL_place e).1; omega
theorem nameOk_empty : nameOk ByteArray.empty = false := by decide
theorem empty_not_given {pre : List Ln} (hpre : ∀ y ∈ pre, lineOk y = true) : givenB pre ByteArray.empty = false := by
  cases e : givenB pre ByteArray.empty
  · rfl
  · rw [givenB, List.any_eq_true] at e
    obtain ⟨y, hy, hg⟩ := e
    obtain ⟨h6, hn⟩ := (gives_iff _ _).1 hg
    have h := hpre y hy
    obtain ⟨kd, nm, o, ps, py, wd, vl⟩ := y
    simp only at h6 hn
    subst hn
    rw [lineOk, Bool.and_eq_true] at h
    have h2 := h.2
    simp only [kindOk] at h2
    rw [if_neg h6] at h2
    rw [nameOk_empty] at h2
    simp at h2
theorem width_back {pre : List Ln} {ws : List Int} {x : Ln} (hpre : ∀ y ∈ pre, lineOk y = true) (h : 1 ≤ widthL pre ws x) : lineOk x = true ∧ lineNames pre x = true := by
  rw [widthL] at h
  split at h
  · omega
  · rename_i h1
    split at h
    · omega
    · rename_i h2
      split at h
      · omega
      · rename_i h3
        simp only [Bool.not_eq_false] at h1 h3
        have hn : x.kind = 6 ∨ nameOk x.name = true := by
          by_cases e : x.kind = 6
          · exact .inl e
          · right
            cases e2 : nameOk x.name
            · exact absurd ⟨e, .inl e2⟩ h2
            · rfl
        refine ⟨ok_of_width hn h3 h, ?_⟩
        rw [lineNames]
        have hp : x.parts.all (givenB pre) = true := by
          rw [List.all_eq_true] at h1 ⊢
          intro p hp
          exact given_of_find (of_decide_eq_true (h1 p hp))
        have hq : givenB pre x.name = false := by
          by_cases e : x.kind = 6
          · have hf := h3
            simp only [fieldsOk, Bool.and_eq_true, decide_eq_true_eq, Bool.or_eq_true, beq_iff_eq, decide_eq_false_iff_not] at hf
            have h5 := hf.1.1.resolve_left (fun h => h e)
            rw [(same_iff _ _).1 h5]
            exact empty_not_given hpre
          · refine not_given ?_
            by_cases e2 : 0 ≤ findL pre x.name
            · exact absurd ⟨e, .inr e2⟩ h2
            · omega
        rw [hq, hp]
        rfl
theorem lines_back {ls : List Ln} (h : allIn 1 10 (widths ls) = true) : ∀ k, k ≤ ls.length → ∀ j, j < k → lineOk (lnAt ls j) = true ∧ lineNames (ls.take j) (lnAt ls j) = true
  | 0, _, j, hj => absurd hj (Nat.not_lt_zero _)
  | k + 1, hk, j, hj => by
    have ih := lines_back h k (by omega)
    by_cases e : j < k
    · exact ih j e
    · obtain rfl : j = k := by omega
      have h1 := (allIn_yes h j (by rw [widths, widthsTo_length]; omega)).1
      rw [widths, widths_at ls _ j (by omega)] at h1
      refine width_back (fun y hy => ?_) h1
      obtain ⟨i, hi, rfl⟩ := List.getElem_of_mem hy
      rw [List.length_take] at hi
      have h2 := (ih i (by omega)).1
      rw [lnAt_get (by omega)] at h2
      rw [List.getElem_take]
      exact h2
theorem goods_back {ls : List Ln} (h : allIn 1 10 (widths ls) = true) : ls.all lineOk = true ∧ namesGiven ls = true := by
  have key := lines_back h ls.length (Nat.le_refl _)
  constructor
  · rw [List.all_eq_true]
    intro y hy
    obtain ⟨i, hi, rfl⟩ := List.getElem_of_mem hy
    have := (key i hi).1
    rwa [lnAt_get hi] at this
  · rw [namesGiven, List.all_eq_true]
    intro k hk
    exact (key k (List.mem_range.1 hk)).2
theorem widths_range (ls : List Ln) (j : Nat) : 0 ≤ (widths ls).getD j 0 ∧ (widths ls).getD j 0 ≤ 10 := widthsTo_range ls _ j
theorem no_zero {zs : List Int} (h : ∀ j, 0 ≤ zs.getD j 0 ∧ zs.getD j 0 ≤ 10) : allIn 1 10 zs = !zs.contains 0 := by
  cases hc : zs.contains 0 with
  | true =>
    have h0 : (0 : Int) ∈ zs := by simpa using hc
    obtain ⟨j, hj, e⟩ := List.getElem_of_mem h0
    cases ha : allIn 1 10 zs
    · rfl
    · have := (allIn_yes ha j hj).1
      rw [List.getD_eq_getElem?_getD, List.getElem?_eq_getElem hj, e] at this
      simp at this
  | false =>
    cases ha : allIn 1 10 zs
    · exfalso
      have hno : ¬ (0 : Int) ∈ zs := fun hm => by
        have : zs.contains 0 = true := by simpa using hm
        rw [hc] at this; cases this
      have : allIn 1 10 zs = true := allIn_mk (fun j hj => by
        have h1 := h j
        rw [List.getD_eq_getElem?_getD, List.getElem?_eq_getElem hj] at h1 ⊢
        simp only [Option.getD_some] at h1 ⊢
        have h2 : zs[j] ≠ 0 := fun e => hno (e ▸ List.getElem_mem hj)
        omega)
      rw [ha] at this; cases this
    · rfl
theorem good_same (ls : List Ln) : progGood ls = goodP ls := by
  cases ha : allIn 1 10 (widths ls) with
  | true =>
    obtain ⟨h1, h2⟩ := goods_back ha
    have hc : (!(widths ls).contains 0) = true := by rw [← no_zero (widths_range ls)]; exact ha
    rw [progGood, goodP, h1, h2, progW_widths h1 h2, hc, ha]
    simp only [Bool.true_and, Bool.and_true]
    cases decide (ls.length ≤ 30) <;> cases decide ((outsOf ls (widths ls)).length ≤ 10) <;> cases decide ((inputsOf 0 ls).sum ≤ 20) <;> cases decide ((inputsOf 1 ls).sum ≤ 20) <;> rfl
  | false =>
    rw [goodP_bad ha, progGood]
    cases h1 : ls.all lineOk
    · simp
    · cases h2 : namesGiven ls
      · simp
      · rw [progW_widths h1 h2, show (!(widths ls).contains 0) = false by rw [← no_zero (widths_range ls)]; exact ha]
        simp
theorem lineOk_op {x : Ln} (h : lineOk x = true) (hk : x.kind = 3) : opIx x.op < 8 := by
  rw [lineOk, Bool.and_eq_true] at h
  have h2 := h.2
  rw [kindOk, if_neg (by omega), if_neg (by omega), if_pos hk] at h2
  simp only [Bool.and_eq_true, decide_eq_true_eq] at h2
  have := opIx_le x.op
  omega

end Go.Proofs.YtcbofogmfelpkaaDoor
