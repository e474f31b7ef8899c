/- The model's test of a program (laGood) and its IsProgram. For lists of at most 1048576 lines. -/
import Derived.Test.YtcbofogmfelpkaaDoorLnG4
namespace Go.Proofs.YtcbofogmfelpkaaDoor
open Go Go.RowKit
set_option maxRecDepth 100000

theorem widths_at (ls : List Ln) : ∀ k j, j < k → (widthsTo ls k).getD j 0 = widthL (ls.take j) (widthsTo ls j) (lnAt ls j)
  | 0, j, h => absurd h (by omega)
  | k + 1, j, h => by
    have hl := widthsTo_length ls k
    rw [widthsTo, List.getD_eq_getElem?_getD, List.getElem?_append]
    by_cases e : j < k
    · rw [if_pos (by omega), ← List.getD_eq_getElem?_getD]
      exact widths_at ls k j e
    · obtain rfl : j = k := by omega
      rw [if_neg (by omega), hl, Nat.sub_self]
      rfl
theorem lnAt_get {ls : List Ln} {j : Nat} (h : j < ls.length) : lnAt ls j = ls[j] := by simp [lnAt, List.getD_eq_getElem?_getD, List.getElem?_eq_getElem h]
theorem widthL_kind1 {pre : List Ln} {ws : List Int} {x : Ln} (hk : x.kind = 1) (h : 1 ≤ widthL pre ws x) : 1 ≤ x.width ∧ x.width ≤ 10 := by
  unfold widthL at h
  split at h
  · omega
  · split at h
    · omega
    · split at h
      · omega
      · rw [widthK, if_pos hk] at h
        split at h
        · rename_i h1
          exact h1.2
        · omega
theorem inputs_small {ls : List Ln} (h : allIn 1 10 (widths ls) = true) (p : Int) (j : Nat) : 0 ≤ (inputsOf p ls).getD j 0 ∧ (inputsOf p ls).getD j 0 ≤ 1000 := by
  have key := getD_map_range (l := ls.filter fun x => decide (x.kind = 1 ∧ x.party = p)) (f := (·.width)) (b := 10) (by omega) (fun x hx => by
    rw [List.mem_filter, decide_eq_true_eq] at hx
    obtain ⟨hx, h1, _⟩ := hx
    obtain ⟨i, hi, rfl⟩ := List.getElem_of_mem hx
    have h2 := (allIn_yes h i (by rw [widths, widthsTo_length]; exact hi)).1
    rw [widths, widths_at ls _ i hi, lnAt_get hi] at h2
    have h3 := widthL_kind1 h1 h2
    exact ⟨by omega, h3.2⟩) j
  have e : ((ls.filter fun x => decide (x.kind = 1 ∧ x.party = p)).map (·.width)) = inputsOf p ls := rfl
  rw [e] at key
  exact ⟨key.1, by omega⟩
theorem goodP_long {ls : List Ln} (h : ¬ (ls.length : Int) ≤ 30) : goodP ls = false := by
  have e : decide (ls.length ≤ 30) = false := by simp; omega
  rw [goodP, e]; simp
theorem goodP_bad {ls : List Ln} (h : allIn 1 10 (widths ls) = false) : goodP ls = false := by rw [goodP, h]; simp
theorem goodP_in0 {ls : List Ln} (h : ¬ (inputsOf 0 ls).sum ≤ 20) : goodP ls = false := by rw [goodP, decide_eq_false h]; simp
theorem goodP_in1 {ls : List Ln} (h : ¬ (inputsOf 1 ls).sum ≤ 20) : goodP ls = false := by rw [goodP, decide_eq_false h]; simp
theorem goodP_outs {ls : List Ln} (h : ¬ ((outsOf ls (widths ls)).length : Int) ≤ 10) : goodP ls = false := by
  have e : decide ((outsOf ls (widths ls)).length ≤ 10) = false := by simp; omega
  rw [goodP, e]; simp
theorem goodP_yes {ls : List Ln} (h0 : (ls.length : Int) ≤ 30) (h1 : allIn 1 10 (widths ls) = true) (h2 : (inputsOf 0 ls).sum ≤ 20) (h3 : (inputsOf 1 ls).sum ≤ 20) (h4 : ((outsOf ls (widths ls)).length : Int) ≤ 10) : goodP ls = true := by
  rw [goodP, h1, decide_eq_true h2, decide_eq_true h3, decide_eq_true (show ls.length ≤ 30 by omega), decide_eq_true (show (outsOf ls (widths ls)).length ≤ 10 by omega)]
  rfl

set_option maxRecDepth 100000 in
set_option maxHeartbeats 4000000 in
theorem laGood_any (A : Option Addr) (n c : Nat) (ls : List Ln) (w : World) (h : HasL w A n ls) (hn : n ≤ 1048576) (hnc : n ≤ c) (hz : ∀ j, j < n → FitL (lnAt ls j)) :
    Calls Tryd.prog 43 #[.slice A n c] w fun e w' => e = .returned (.bool (goodP ls)) ∧ Below w.heap.size w w' := by
  have HW := Lib.hid (laWidths_any A n c ls w h hn hnc hz)
  have HH := Lib.hid h
  have HZ := Lib.hid hz
  have HL : Hid (ls.length = n) := h.1
  clear h hz
  by_cases h30 : (n : Int) ≤ 30
  · go_enter Tryd.func43, Tryd.ntmps43
    go_wp2_with fail
    refine (HW.out).mono ?_
    rintro e w1 ⟨R1, c1, rfl, o1, b1⟩
    have HB1 := Lib.hid b1
    have hR1 := Lib.hid o1.has
    obtain ⟨b, hb⟩ : ∃ b, allIn 1 10 (widths ls) = b := ⟨_, rfl⟩
    have hbH := Lib.hid hb
    clear HW o1 b1 hb
    go_wp2_with fail
    refine (l1All_any R1 n c1 (widths ls) 1 10 b w1 hR1.out (by omega) hbH.out).mono ?_
    rintro e w2 ⟨rfl, rfl⟩
    cases b with
    | false =>
      have HF : Hid (goodP ls = false) := goodP_bad hbH.out
      go_wp2_with fail
      go_ret
      exact ⟨retBl HF.out.symm, HB1.out⟩
    | true =>
      have HS := Lib.hid (inputs_small hbH.out)
      go_wp2_with fail
      refine (laInputs_any A n c ls 0 w1 (HH.out.below HB1.out) (by omega)).mono ?_
      rintro e w3 ⟨R3, m3, c3, rfl, o3, hm3, b3⟩
      have HB3 := Lib.hid (HB1.out.trans (b3.mono HB1.out.size))
      have hR3 := Lib.hid o3.has
      clear o3 b3
      go_wp2_with fail
      refine (laSum_any R3 m3 c3 (inputsOf 0 ls) w3 hR3.out (by omega) (HS.out 0)).mono ?_
      rintro e w4 ⟨rfl, rfl⟩
      by_cases s0 : (inputsOf 0 ls).sum ≤ 20
      · go_wp2_with fail
        refine (laInputs_any A n c ls 1 w3 (HH.out.below HB3.out) (by omega)).mono ?_
        rintro e w5 ⟨R5, m5, c5, rfl, o5, hm5, b5⟩
        have HB5 := Lib.hid (HB3.out.trans (b5.mono HB3.out.size))
        have hR5 := Lib.hid o5.has
        clear o5 b5
        go_wp2_with fail
        refine (laSum_any R5 m5 c5 (inputsOf 1 ls) w5 hR5.out (by omega) (HS.out 1)).mono ?_
        rintro e w6 ⟨rfl, rfl⟩
        by_cases s1 : (inputsOf 1 ls).sum ≤ 20
        · go_wp2_with fail
          refine (laOuts_any A n c ls w5 (HH.out.below HB5.out) hn hnc HZ.out).mono ?_
          rintro e w7 ⟨R7, m7, c7, rfl, o7, hm7, b7⟩
          have HB7 := Lib.hid (HB5.out.trans (b7.mono HB5.out.size))
          have HM : Hid ((outsOf ls (widths ls)).length = m7) := o7.has.1
          clear o7 b7
          by_cases s2 : (m7 : Int) ≤ 10
          · have HF : Hid (goodP ls = true) := goodP_yes (by rw [HL.out]; exact h30) hbH.out s0 s1 (by rw [HM.out]; exact s2)
            go_wp2_with fail
            go_ret
            exact ⟨retBl HF.out.symm, HB7.out⟩
          · have HF : Hid (goodP ls = false) := goodP_outs (by rw [HM.out]; exact s2)
            go_wp2_with fail
            go_ret
            exact ⟨retBl (by rw [HF.out]; simpa using s2), HB7.out⟩
        · have HF : Hid (goodP ls = false) := goodP_in1 s1
          go_wp2_with fail
          go_ret
          exact ⟨retBl HF.out.symm, HB5.out⟩
      · have HF : Hid (goodP ls = false) := goodP_in0 s0
        go_wp2_with fail
        go_ret
        exact ⟨retBl HF.out.symm, HB3.out⟩
  · have HF : Hid (goodP ls = false) := goodP_long (by rw [HL.out]; exact h30)
    go_enter Tryd.func43, Tryd.ntmps43
    go_wp2_with fail
    go_ret
    exact ⟨retBl HF.out.symm, Below.refl _ _⟩

set_option maxRecDepth 100000 in
theorem spec_IsProgram (A : Option Addr) (n c : Nat) (ls : List Ln) (rb : Bool) (w : World) (h : HasL w A n ls) (hn : n ≤ 1048576) (hnc : n ≤ c) (hz : ∀ j, j < n → FitL (lnAt ls j)) (hm : m_IsProgram ls = rb) :
    Calls Tryd.prog 13 #[.slice A n c] w fun e w' => e = .returned (.bool rb) ∧ Below w.heap.size w w' := by
  have HG := Lib.hid (laGood_any A n c ls w h hn hnc hz)
  have HM : Hid (goodP ls = rb) := hm
  clear h hz hm
  go_enter Tryd.func13, Tryd.ntmps13
  go_wp2_with fail
  refine (HG.out).mono ?_
  rintro e w1 ⟨rfl, b1⟩
  have HB1 := Lib.hid b1
  clear b1
  go_wp2_with fail
  go_ret
  exact ⟨retBl HM.out, HB1.out⟩

end Go.Proofs.YtcbofogmfelpkaaDoor
