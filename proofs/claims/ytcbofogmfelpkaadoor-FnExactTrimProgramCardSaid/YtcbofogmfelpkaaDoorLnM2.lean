/- Places of names and the program's widths, as mathematics. -/
import Derived.Test.YtcbofogmfelpkaaDoorLnI13
namespace Go.Proofs.YtcbofogmfelpkaaDoor
open Go Go.RowKit
set_option maxRecDepth 100000

theorem findIdx_of_given {l : List Ln} {s : ByteArray} (h : givenB l s = true) : l.findIdx (gives s) < l.length := by
  rw [givenB, List.any_eq_true] at h
  obtain ⟨x, hx, hg⟩ := h
  exact List.findIdx_lt_length_of_exists ⟨x, hx, hg⟩
theorem findL_place {l : List Ln} {s : ByteArray} (h : givenB l s = true) : 0 ≤ findL l s ∧ findL l s < (l.length : Int) := by
  have h1 := findIdx_of_given h
  rw [findL, if_pos h1]
  omega
theorem findL_append {l : List Ln} (r : List Ln) {s : ByteArray} (h : givenB l s = true) : findL (l ++ r) s = findL l s := by
  have h1 := findIdx_of_given h
  have e : (l ++ r).findIdx (gives s) = l.findIdx (gives s) := by rw [List.findIdx_append, if_pos h1]
  rw [findL, findL, e, if_pos h1, if_pos (by rw [List.length_append]; omega)]
theorem findL_new {l : List Ln} {x : Ln} {s : ByteArray} (h : givenB l s = false) (g : gives s x = true) : findL (l ++ [x]) s = (l.length : Int) := by
  have h0 : ¬ l.findIdx (gives s) < l.length := fun h1 => by
    have h2 : l.any (gives s) = true := List.any_eq_true.2 ⟨l[l.findIdx (gives s)], List.getElem_mem h1, List.findIdx_getElem (w := h1)⟩
    rw [givenB, h2] at h
    cases h
  have e : (l ++ [x]).findIdx (gives s) = l.length := by rw [List.findIdx_append, if_neg h0, List.findIdx_cons, g]; simp
  rw [findL, e, if_pos (by simp)]
theorem names_at {ls : List Ln} (hn : namesGiven ls = true) {k : Nat} (hk : k < ls.length) : givenB (ls.take k) (lnAt ls k).name = false ∧ (lnAt ls k).parts.all (givenB (ls.take k)) = true := by
  rw [namesGiven, List.all_eq_true] at hn
  have h := hn k (List.mem_range.2 hk)
  rw [lineNames] at h
  simp only [Bool.not_eq_true', Bool.or_eq_false_iff, Bool.not_eq_false'] at h
  exact h
/-- f has the place of each name that the first k lines give. -/
def PlacesOk (ls : List Ln) (k : Nat) (f : ByteArray → Int) : Prop := ∀ s, givenB (ls.take k) s = true → f s = findL (ls.take k) s
theorem places_next {ls : List Ln} (hn : namesGiven ls = true) {k : Nat} (hk : k < ls.length) {f : ByteArray → Int} (h : PlacesOk ls k f) : PlacesOk ls (k + 1) (fun t => if (lnAt ls k).name = t then (k : Int) else f t) := by
  intro s hs
  rw [given_next hk, Bool.or_eq_true] at hs
  have hx := (names_at hn hk).1
  by_cases e : (lnAt ls k).name = s
  · simp only [if_pos e]
    rw [e] at hx
    rcases hs with hs | hs
    · rw [hx] at hs; cases hs
    · rw [take_next hk, findL_new hx hs, List.length_take]
      omega
  · simp only [if_neg e]
    have hg : gives s (lnAt ls k) = false := by rw [gives, same_no e, Bool.and_false]
    rw [hg] at hs
    have h1 : givenB (ls.take k) s = true := by simpa using hs
    rw [take_next hk, findL_append _ h1]
    exact h s h1
theorem progTo_at (ls : List Ln) : ∀ k j, j < k → (progTo ls k).getD j 0 = (progTo ls (j + 1)).getD j 0
  | 0, j, h => absurd h (by omega)
  | k + 1, j, h => by
    by_cases e : j = k
    · rw [e]
    · rw [← progTo_at ls k j (by omega), progTo, List.getD_eq_getElem?_getD, List.getElem?_append, if_pos (by rw [progTo_length]; omega), ← List.getD_eq_getElem?_getD]
theorem progTo_all {ls : List Ln} {k j : Nat} (hj : j < k) (hk : k ≤ ls.length) : (progTo ls k).getD j 0 = (progW ls).getD j 0 := by
  rw [progTo_at ls k j hj, progW, progTo_at ls ls.length j (by omega)]
theorem progTo_new (ls : List Ln) {k : Nat} (hk : k < ls.length) : (progW ls).getD k 0 = pWidth (lnAt ls k).kind (lnAt ls k).width (lnAt ls k).op (partWs (ls.take k) (progTo ls k) (lnAt ls k).parts) := by
  rw [← progTo_all (Nat.lt_succ_self k) hk, progTo, List.getD_eq_getElem?_getD, List.getElem?_append_right (by rw [progTo_length]; exact Nat.le_refl _), progTo_length]
  simp
theorem partWs_mapTo (pre : List Ln) (ws : List Int) (ps : List ByteArray) : partWs pre ws ps = mapTo (fun j => ws.getD (findL pre (wordAt ps j)).toNat 0) ps.length := by
  apply List.ext_getElem
  · simp [partWs, mapTo]
  · intro i h1 h2
    simp [partWs] at h1
    simp [partWs, mapTo, wordAt, List.getD_eq_getElem?_getD, List.getElem?_eq_getElem h1]
theorem opW_range {j a : Int} (h : 0 ≤ a ∧ a ≤ 10) : 0 ≤ opW j a ∧ opW j a ≤ 10 := by
  unfold opW
  split
  · split <;> omega
  · split <;> omega
theorem pWidth_range {kd wd : Int} {o : ByteArray} {zs : List Int} (hw : kd = 1 ∨ kd = 2 → 0 ≤ wd ∧ wd ≤ 10) (h : ∀ j, 0 ≤ zs.getD j 0 ∧ zs.getD j 0 ≤ 10) : 0 ≤ pWidth kd wd o zs ∧ pWidth kd wd o zs ≤ 10 := by
  unfold pWidth
  have h0 := h 0
  have h1 := h 1
  split
  · rename_i e; exact hw e
  · split
    · split
      · exact opW_range h0
      · omega
    · split
      · split <;> omega
      · exact h0
theorem lineOk_width {x : Ln} (h : lineOk x = true) (hk : x.kind = 1 ∨ x.kind = 2) : 0 ≤ x.width ∧ x.width ≤ 10 := by
  rw [lineOk, Bool.and_eq_true] at h
  have h2 := h.2
  rcases hk with e | e
  · rw [kindOk, if_pos e] at h2
    simp only [Bool.and_eq_true, decide_eq_true_eq] at h2
    omega
  · rw [kindOk, if_neg (by omega), if_pos e] at h2
    simp only [Bool.and_eq_true, decide_eq_true_eq] at h2
    omega
theorem progTo_range {ls : List Ln} (hl : ls.all lineOk = true) : ∀ k, k ≤ ls.length → ∀ j, 0 ≤ (progTo ls k).getD j 0 ∧ (progTo ls k).getD j 0 ≤ 10
  | 0, _, j => by simp [progTo]
  | k + 1, hk, j => by
    have ih := progTo_range hl k (by omega)
    have hx : lineOk (lnAt ls k) = true := by
      rw [List.all_eq_true] at hl
      have e : lnAt ls k = ls[k] := by simp [lnAt, List.getD_eq_getElem?_getD, List.getElem?_eq_getElem (show k < ls.length by omega)]
      rw [e]
      exact hl _ (List.getElem_mem _)
    rw [progTo, List.getD_eq_getElem?_getD, List.getElem?_append]
    split
    · rw [← List.getD_eq_getElem?_getD]; exact ih j
    · by_cases e : j - (progTo ls k).length = 0
      · rw [e]
        exact pWidth_range (o := (lnAt ls k).op) (zs := partWs (ls.take k) (progTo ls k) (lnAt ls k).parts) (lineOk_width hx) (fun j => getD_map_range (by omega) (fun p _ => ih _) j)
      · rw [List.getElem?_eq_none (by simp; omega)]; simp

end Go.Proofs.YtcbofogmfelpkaaDoor
