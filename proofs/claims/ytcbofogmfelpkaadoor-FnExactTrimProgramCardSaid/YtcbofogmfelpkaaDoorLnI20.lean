/- The program's IsProgram, whole. -/
import Derived.Test.YtcbofogmfelpkaaDoorLnI19
namespace Go.Proofs.YtcbofogmfelpkaaDoor
open Go Go.RowKit Go.Shelf
set_option maxRecDepth 100000

theorem pg_long {ls : List Ln} (h : ¬ (ls.length : Int) ≤ 30) : progGood ls = false := by rw [progGood, decide_eq_false (show ¬ ls.length ≤ 30 by omega)]; rfl

set_option maxRecDepth 100000 in
set_option maxHeartbeats 4000000 in
theorem implIsProgram_any (A : Option Addr) (n c : Nat) (ls : List Ln) (w : World) (h : HasL w A n ls) (hn : n ≤ 1048576) (hz : ∀ j, j < n → FitL (lnAt ls j)) (hF : Forms w) (hW : OpWords w) :
    Calls Tryd.prog 15 #[.slice A n c] w fun e w' => e = .returned (.bool (progGood ls)) ∧ Below w.heap.size w w' := by
  have HH := Lib.hid h
  have HZ := Lib.hid hz
  have HL : Hid (ls.length = n) := h.1
  have HFo := Lib.hid hF
  have HWo := Lib.hid hW
  clear h hz hF hW
  by_cases h30 : (n : Int) ≤ 30
  · have HD : Hid (decide (ls.length ≤ 30) = true) := decide_eq_true (by rw [HL.out]; omega)
    go_enter Tryd.func15, Tryd.ntmps15
    go_wp2_with fail
    refine (areLines_any A n c ls w HH.out hn HZ.out HFo.out HWo.out).mono ?_
    rintro e w1 ⟨rfl, b1⟩
    have HB1 := Lib.hid b1
    clear b1
    cases hl : ls.all lineOk with
    | false =>
      have HF : Hid (progGood ls = false) := by show _ = _; rw [progGood, hl]; simp
      clear hl
      go_wp2_with fail
      go_ret
      exact ⟨retBl HF.out.symm, HB1.out⟩
    | true =>
      have HLo := Lib.hid hl
      clear hl
      go_wp2_with fail
      refine (areNamesGiven_any A n c ls w1 (HH.out.below HB1.out) hn HZ.out).mono ?_
      rintro e w2 ⟨rfl, b2⟩
      have HB2 := Lib.hid (HB1.out.trans (b2.mono HB1.out.size))
      clear b2
      cases hg : namesGiven ls with
      | false =>
        have HF : Hid (progGood ls = false) := by show _ = _; rw [progGood, hg]; simp
        clear hg
        go_wp2_with fail
        go_ret
        exact ⟨retBl HF.out.symm, HB2.out⟩
      | true =>
        have HNm := Lib.hid hg
        clear hg
        go_wp2_with fail
        refine (widthsByLine_any A n c ls w2 (HH.out.below HB2.out) hn HZ.out HLo.out HNm.out (HWo.out.below HB2.out)).mono ?_
        rintro e w3 ⟨g, rfl, o3, b3⟩
        have HB3 := Lib.hid (HB2.out.trans (b3.mono HB2.out.size))
        have HU := Lib.hid o3.has
        clear o3 b3
        go_wp2_with fail
        refine (contains0_any g n n (progW ls) w3 HU.out hn).mono ?_
        rintro e w4 ⟨rfl, rfl⟩
        cases h0 : (progW ls).contains 0 with
        | true =>
          have HF : Hid (progGood ls = false) := by show _ = _; rw [progGood, h0]; simp
          clear h0
          go_wp2_with fail
          go_ret
          exact ⟨retBl HF.out.symm, HB3.out⟩
        | false =>
          have H0 := Lib.hid h0
          clear h0
          go_wp2_with fail
          refine (atLinesOut_any A n c ls (some ⟨g, 0, none⟩) n (progW ls) w4 (HH.out.below HB3.out) hn HU.out).mono ?_
          rintro e w5 ⟨R5, m5, c5, rfl, o5, hm5, b5⟩
          have HB5 := Lib.hid (HB3.out.trans (b5.mono HB3.out.size))
          have HM : Hid ((outsOf ls (progW ls)).length = m5) := o5.has.1
          clear o5 b5
          by_cases h10 : (m5 : Int) ≤ 10
          · have HD2 : Hid (decide ((outsOf ls (progW ls)).length ≤ 10) = true) := decide_eq_true (by rw [HM.out]; omega)
            go_wp2_with fail
            refine (bitsOfParty_any A n c ls 0 w5 (HH.out.below HB5.out) hn (inputs_ok HLo.out 0)).mono ?_
            rintro e w6 ⟨rfl, b6⟩
            have HB6 := Lib.hid (HB5.out.trans (b6.mono HB5.out.size))
            clear b6
            by_cases s0 : (inputsOf 0 ls).sum ≤ 20
            · go_wp2_with fail
              refine (bitsOfParty_any A n c ls 1 w6 (HH.out.below HB6.out) hn (inputs_ok HLo.out 1)).mono ?_
              rintro e w7 ⟨rfl, b7⟩
              have HB7 := Lib.hid (HB6.out.trans (b7.mono HB6.out.size))
              have HF : Hid (progGood ls = decide ((inputsOf 1 ls).sum ≤ 20)) := by show _ = _; rw [progGood, HD.out, HLo.out, HNm.out, H0.out, HD2.out, decide_eq_true s0]; simp
              clear b7
              go_wp2_with fail
              go_ret
              exact ⟨retBl HF.out.symm, HB7.out⟩
            · have HF : Hid (progGood ls = false) := by show _ = _; rw [progGood, decide_eq_false s0]; simp
              go_wp2_with fail
              go_ret
              exact ⟨retBl HF.out.symm, HB6.out⟩
          · have HF : Hid (progGood ls = false) := by show _ = _; rw [progGood, decide_eq_false (show ¬ (outsOf ls (progW ls)).length ≤ 10 by rw [HM.out]; omega)]; simp
            go_wp2_with fail
            go_ret
            exact ⟨retBl HF.out.symm, HB5.out⟩
  · have HF : Hid (progGood ls = false) := pg_long (by rw [HL.out]; exact h30)
    go_enter Tryd.func15, Tryd.ntmps15
    go_wp2_with fail
    go_ret
    exact ⟨retBl HF.out.symm, Below.refl _ _⟩

end Go.Proofs.YtcbofogmfelpkaaDoor
