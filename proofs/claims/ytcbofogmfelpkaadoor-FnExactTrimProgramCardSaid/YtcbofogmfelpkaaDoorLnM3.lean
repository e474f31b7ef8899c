/- The program's widths are the model's, where all lines and names are good. -/
import Derived.Test.YtcbofogmfelpkaaDoorLnM2
namespace Go.Proofs.YtcbofogmfelpkaaDoor
open Go Go.RowKit
set_option maxRecDepth 100000

theorem findL_not {l : List Ln} {s : ByteArray} (h : givenB l s = false) : findL l s = -1 := by
  have h0 : ¬ l.findIdx (gives s) < l.length := fun h1 => by
    have h2 : l.any (gives s) = true := List.any_eq_true.2 ⟨l[l.findIdx (gives s)], List.getElem_mem h1, List.findIdx_getElem (w := h1)⟩
    rw [givenB, h2] at h
    cases h
  rw [findL, if_neg h0]
theorem twoW_same {o : ByteArray} {a b : Int} (h8 : opIx o ≠ 8) : twoW o a b = if a = b then opW (opIx o) a else 0 := by
  unfold twoW opW
  by_cases hab : a = b
  · by_cases h2 : opIx o = 2
    · have e2 : ((opIx o : Nat) : Int) = 2 := by omega
      by_cases h10 : 10 < 2 * a
      · rw [if_pos (.inr (.inr ⟨h2, h10⟩)), if_pos hab, if_pos e2, if_pos h10]
      · rw [if_neg (by rintro (h | h | h); exact h hab; exact h8 h; exact h10 h.2), if_pos h2, if_pos hab, if_pos e2, if_neg h10]
    · have e2 : ¬ ((opIx o : Nat) : Int) = 2 := by omega
      rw [if_neg (by rintro (h | h | h); exact h hab; exact h8 h; exact h2 h.1), if_neg h2, if_pos hab, if_neg e2]
      by_cases h34 : opIx o = 3 ∨ opIx o = 4
      · rw [if_pos h34, if_pos (by omega)]
      · rw [if_neg h34, if_neg (by omega)]
  · rw [if_pos (.inl hab), if_neg hab]
theorem names_split {pre : List Ln} {x : Ln} (h : lineNames pre x = true) : givenB pre x.name = false ∧ x.parts.all (fun p => decide (0 ≤ findL pre p)) = true := by
  rw [lineNames] at h
  simp only [Bool.not_eq_true', Bool.or_eq_false_iff, Bool.not_eq_false'] at h
  refine ⟨h.1, ?_⟩
  have h2 := h.2
  rw [List.all_eq_true] at h2 ⊢
  exact fun p hp => decide_eq_true (findL_place (h2 p hp)).1
theorem width_same {pre : List Ln} {ws : List Int} {x : Ln} (hx : lineOk x = true) (hn : lineNames pre x = true) : widthL pre ws x = pWidth x.kind x.width x.op (partWs pre ws x.parts) := by
  obtain ⟨hnew, hparts⟩ := names_split hn
  have hf : findL pre x.name < 0 := by rw [findL_not hnew]; omega
  rw [lineOk, Bool.and_eq_true, decide_eq_true_eq] at hx
  obtain ⟨⟨⟨l1, l2⟩, l3⟩, hk⟩ := hx
  rw [widthL, if_neg (by rw [hparts]; simp)]
  obtain ⟨kd, nm, o, ps, py, wd, vl⟩ := x
  simp only at l1 l2 l3 hk hf ⊢
  have h0 : kd ≠ 0 := fun e => by rw [e, kindOk, if_neg (by omega), if_neg (by omega), if_neg (by omega), if_neg (by omega), if_neg (by omega)] at hk; cases hk
  rcases (by omega : kd = 1 ∨ kd = 2 ∨ kd = 3 ∨ kd = 4 ∨ kd = 5 ∨ kd = 6) with rfl | rfl | rfl | rfl | rfl | rfl
  · simp only [kindOk, if_true, Bool.and_eq_true, decide_eq_true_eq] at hk
    obtain ⟨hnm, ho, ⟨p1, p2⟩, ⟨w1, w2⟩, v0⟩ := hk
    rw [if_neg (by rintro ⟨_, h | h⟩; rw [hnm] at h; cases h; omega), if_neg (by simp [fieldsOk, ho, v0, l3]), widthK, if_pos rfl, if_pos ⟨⟨p1, by simp only; omega⟩, w1, w2⟩, pWidth, if_pos (.inl rfl)]
  · rw [kindOk, if_neg (by omega), if_pos rfl] at hk
    simp only [Bool.and_eq_true, decide_eq_true_eq] at hk
    obtain ⟨hnm, ho, p0, ⟨w1, w2⟩, v1, v2⟩ := hk
    rw [if_neg (by rintro ⟨_, h | h⟩; rw [hnm] at h; cases h; omega), if_neg (by simp [fieldsOk, ho, p0, l3]), widthK, if_neg (by simp), if_pos rfl, if_pos ⟨⟨w1, w2⟩, v1, by simp only; omega⟩, pWidth, if_pos (.inr rfl)]
  · rw [kindOk, if_neg (by omega), if_neg (by omega), if_pos rfl] at hk
    simp only [plainL, Bool.and_eq_true, decide_eq_true_eq] at hk
    obtain ⟨hnm, h8, p0, w0, v0⟩ := hk
    rw [if_neg (by rintro ⟨_, h | h⟩; rw [hnm] at h; cases h; omega), if_neg (by simp [fieldsOk, p0, w0, v0, l3]), widthK, if_neg (by simp), if_neg (by simp), if_pos rfl, pWidth, if_neg (by omega), if_pos rfl]
    exact twoW_same h8
  · rw [kindOk, if_neg (by omega), if_neg (by omega), if_neg (by omega), if_pos (.inl rfl)] at hk
    simp only [plainL, Bool.and_eq_true, decide_eq_true_eq] at hk
    obtain ⟨hnm, ho, p0, w0, v0⟩ := hk
    rw [if_neg (by rintro ⟨_, h | h⟩; rw [hnm] at h; cases h; omega), if_neg (by simp [fieldsOk, ho, p0, w0, v0, l3]), widthK, if_neg (by simp), if_neg (by simp), if_neg (by simp), if_pos (.inl rfl), pWidth, if_neg (by omega), if_neg (by omega), if_neg (by omega)]
  · rw [kindOk, if_neg (by omega), if_neg (by omega), if_neg (by omega), if_pos (.inr rfl)] at hk
    simp only [plainL, Bool.and_eq_true, decide_eq_true_eq] at hk
    obtain ⟨hnm, ho, p0, w0, v0⟩ := hk
    rw [if_neg (by rintro ⟨_, h | h⟩; rw [hnm] at h; cases h; omega), if_neg (by simp [fieldsOk, ho, p0, w0, v0, l3])]
    simp [widthK, pWidth]
  · rw [kindOk, if_neg (by omega), if_neg (by omega), if_neg (by omega), if_neg (by omega), if_pos rfl] at hk
    simp only [plainL, Bool.and_eq_true, decide_eq_true_eq] at hk
    obtain ⟨hm, ho, p0, w0, v0⟩ := hk
    rw [if_neg (by rintro ⟨h, _⟩; exact h rfl), if_neg (by simp [fieldsOk, hm, ho, p0, w0, v0, l3]), widthK, if_neg (by simp), if_neg (by simp), if_neg (by simp), if_pos (.inr rfl), pWidth, if_neg (by omega), if_neg (by omega), if_neg (by omega)]
theorem line_good {ls : List Ln} (hl : ls.all lineOk = true) {k : Nat} (hk : k < ls.length) : lineOk (lnAt ls k) = true := by
  rw [List.all_eq_true] at hl
  have e : lnAt ls k = ls[k] := by simp [lnAt, List.getD_eq_getElem?_getD, List.getElem?_eq_getElem hk]
  rw [e]
  exact hl _ (List.getElem_mem _)
theorem progTo_widthsTo {ls : List Ln} (hl : ls.all lineOk = true) (hn : namesGiven ls = true) : ∀ k, k ≤ ls.length → progTo ls k = widthsTo ls k
  | 0, _ => rfl
  | k + 1, hk => by
    have h := hn
    rw [namesGiven, List.all_eq_true] at h
    rw [progTo, widthsTo, progTo_widthsTo hl hn k (by omega), width_same (line_good hl hk) (h k (List.mem_range.2 hk))]
theorem progW_widths {ls : List Ln} (hl : ls.all lineOk = true) (hn : namesGiven ls = true) : progW ls = widths ls := progTo_widthsTo hl hn _ (Nat.le_refl _)

end Go.Proofs.YtcbofogmfelpkaaDoor
