/- The program's test of a line by itself: constants. -/
import Derived.Test.YtcbofogmfelpkaaDoorLnI3
namespace Go.Proofs.YtcbofogmfelpkaaDoor
open Go Go.RowKit Go.Shelf
set_option maxRecDepth 100000

set_option maxRecDepth 100000 in
set_option maxHeartbeats 4000000 in
theorem isLine_2 (nm o : ByteArray) (P : Option Addr) (d : Nat) (py wd vl : Int) (w : World) (hs : nm.size ≤ 16777216) (hF : Forms w) :
    Calls Tryd.prog 79 #[.agg #[.int .i64 2, .string nm, .string o, .slice P 0 d, .int .i64 py, .int .i64 wd, .int .i64 vl]] w fun e w' => e = .returned (.bool (kindOk 2 nm o py wd vl)) ∧ Below w.heap.size w w' := by
  have b1 := belowNew w (.cells #[.int .i64 2, .string nm, .string o, .slice P 0 d, .int .i64 py, .int .i64 wd, .int .i64 vl] 53)
  have y1 := Blk.new w #[.int .i64 2, .string nm, .string o, .slice P 0 d, .int .i64 py, .int .i64 wd, .int .i64 vl] 53
  have gf : w.cell? ⟨1, 8, none⟩ = some (.int .i64 0) := by have h := hF 2 (by omega); exact h.2.2
  have gl : 1 < w.heap.size := World.block_lt_of_cell? w _ gf
  have gf1 : (w.alloc (.cells #[.int .i64 2, .string nm, .string o, .slice P 0 d, .int .i64 py, .int .i64 wd, .int .i64 vl] 53)).cell? ⟨1, 8, none⟩ = some (.int .i64 0) := by have h := hF.below b1 2 (by omega); exact h.2.2
  obtain ⟨W1, hW1⟩ : ∃ W, W = w.alloc (.cells #[.int .i64 2, .string nm, .string o, .slice P 0 d, .int .i64 py, .int .i64 wd, .int .i64 vl] 53) := ⟨_, rfl⟩
  rw [← hW1] at b1 y1 gf1
  have s1 := b1.size
  have HK : Hid (∀ W', Below W1.heap.size W1 W' → W'.cell? ⟨w.heap.size, 0, none⟩ = some (.int .i64 2) ∧ W'.cell? ⟨w.heap.size, 1, none⟩ = some (.string nm) ∧ W'.cell? ⟨w.heap.size, 2, none⟩ = some (.string o) ∧ W'.cell? ⟨w.heap.size, 3, none⟩ = some (.slice P 0 d) ∧ W'.cell? ⟨w.heap.size, 4, none⟩ = some (.int .i64 py) ∧ W'.cell? ⟨w.heap.size, 5, none⟩ = some (.int .i64 wd) ∧ W'.cell? ⟨w.heap.size, 6, none⟩ = some (.int .i64 vl)) :=
    fun W' hb => (y1.below' hb).seven.1
  have HI : Hid (∀ (q l : Int) (b : Bool) (W : World), (decide (0 ≤ q) && decide (q < l)) = b → Calls Tryd.prog 58 #[.int .i64 q, .int .i64 l] W fun e w' => e = .returned (.bool b) ∧ w' = W) :=
    fun q l b W h => (isBelowL_any q l b W h).mono fun _ _ ⟨h1, h2⟩ => ⟨h1, h2.symm⟩
  have HN : Hid (∀ W, Calls Tryd.prog 99 #[.string nm] W fun e w' => e = .returned (.bool (nameOk nm)) ∧ Below W.heap.size W w') := fun W => isName_any nm W hs
  have HB1 := Lib.hid b1
  obtain ⟨⟨k0, k1, k2, k3, k4, k5, k6⟩, _⟩ := y1.seven
  clear hs hF y1 gf b1
  go_enter Tryd.func79, Tryd.ntmps79
  go_upto_region 1 with fail
  rw [← hW1]
  clear hW1
  go_cut [17] (fun v wx => v = .bool false ∧ Below W1.heap.size W1 wx)
  case first =>
    go_quiet ((go_at_call 58; exact Calls.quiet_of_same (HI.out _ _ true _ (by decide))))
    go_wp2_with fail
    go_meet
    exact ⟨rfl, below_drewN (Below.refl _ _) _⟩
  case rest =>
  obtain ⟨rfl, B2⟩ := hcut
  obtain ⟨w2, rfl⟩ : ∃ x, x = wc := ⟨_, rfl⟩
  clear k0 k1 k2 k3 k4 k5 k6 gf1
  obtain ⟨k0, k1, k2, k3, k4, k5, k6⟩ := HK.out _ B2
  have BT : Hid (Below w.heap.size w w2) := HB1.out.trans (B2.mono s1)
  have D : Below w2.heap.size w2 w2.drew := (Below.refl _ w2).drew
  have HK2 : Hid (∀ W', Below w2.heap.size w2 W' → W'.cell? ⟨w.heap.size, 0, none⟩ = some (.int .i64 2) ∧ W'.cell? ⟨w.heap.size, 1, none⟩ = some (.string nm) ∧ W'.cell? ⟨w.heap.size, 2, none⟩ = some (.string o) ∧ W'.cell? ⟨w.heap.size, 3, none⟩ = some (.slice P 0 d) ∧ W'.cell? ⟨w.heap.size, 4, none⟩ = some (.int .i64 py) ∧ W'.cell? ⟨w.heap.size, 5, none⟩ = some (.int .i64 wd) ∧ W'.cell? ⟨w.heap.size, 6, none⟩ = some (.int .i64 vl)) := fun W' hb => HK.out W' (B2.trans (hb.mono B2.size))
  have s2 := B2.size
  have HBF : Hid (∀ W', Below w2.heap.size w2 W' → Below w.heap.size w W') := fun W' hb => BT.out.trans (hb.mono BT.out.size)
  clear B2
  cases hn : nameOk nm with
  | false =>
    have HF : Hid (kindOk 2 nm o py wd vl = false) := by show _ = _; simp [kindOk, hn]
    have HNc : Hid (∀ W, Calls Tryd.prog 99 #[.string nm] W fun e w' => e = .returned (.bool false) ∧ Below W.heap.size W w') := by rw [← hn]; exact HN.out
    clear hn
    go_wp2_with fail
    first
      | (go_region_with (first | (go_at_call 99; refine (HNc.out _).mono ?_; rintro e w3 ⟨rfl, b3⟩; have Bq := D.trans (b3.mono D.size); obtain ⟨l0, l1, l2, l3, l4, l5, l6⟩ := HK2.out _ Bq)))
      | fail
    all_goals
      go_wp2_with fail
      go_ret
      exact ⟨retBl HF.out.symm, HBF.out _ Bq⟩
  | true =>
    have HNc : Hid (∀ W, Calls Tryd.prog 99 #[.string nm] W fun e w' => e = .returned (.bool true) ∧ Below W.heap.size W w') := by rw [← hn]; exact HN.out
    by_cases ho : o = ⟨#[]⟩
    · subst ho
      by_cases hp : py = 0
      · subst hp
        cases hw : (decide (1 ≤ wd) && decide (wd ≤ 10)) with
        | false =>
          have HF : Hid (kindOk 2 nm ⟨#[]⟩ 0 wd vl = false) := by show _ = _; rw [kindOk, if_neg (by decide), if_pos rfl, hn, emptyB, same_refl', hw]; simp
          have HNW : Hid (∀ W, Calls Tryd.prog 100 #[.int .i64 wd] W fun e w' => e = .returned (.bool false) ∧ W = w') := fun W => isNumberWidth_any wd false W hw
          clear hn hw
          go_wp2_with fail
          first
            | (go_region_with (first | (go_at_call 100; refine (HNW.out _).mono ?_; rintro e w4 ⟨rfl, rfl⟩) | (go_at_call 99; refine (HNc.out _).mono ?_; rintro e w3 ⟨rfl, b3⟩; have Bq := D.trans (b3.mono D.size); obtain ⟨l0, l1, l2, l3, l4, l5, l6⟩ := HK2.out _ Bq)))
            | fail
          all_goals
            go_wp2_with fail
            go_ret
            exact ⟨retBl HF.out.symm, HBF.out _ Bq⟩
        | true =>
          have HNW : Hid (∀ W, Calls Tryd.prog 100 #[.int .i64 wd] W fun e w' => e = .returned (.bool true) ∧ W = w') := fun W => isNumberWidth_any wd true W hw
          have hw1 : 1 ≤ wd ∧ wd ≤ 10 := by simpa using hw
          obtain ⟨hw2, hw3⟩ := hw1
          have hwr : IntKind.i64.wrap (2 ^ wd.toNat) = 2 ^ wd.toNat := by
            rcases (by omega : wd = 1 ∨ wd = 2 ∨ wd = 3 ∨ wd = 4 ∨ wd = 5 ∨ wd = 6 ∨ wd = 7 ∨ wd = 8 ∨ wd = 9 ∨ wd = 10) with rfl | rfl | rfl | rfl | rfl | rfl | rfl | rfl | rfl | rfl <;> decide
          cases hv : (decide (0 ≤ vl) && decide (vl < 2 ^ wd.toNat)) with
          | false =>
            have HF : Hid (kindOk 2 nm ⟨#[]⟩ 0 wd vl = false) := by show _ = _; rw [kindOk, if_neg (by decide), if_pos rfl, hn, emptyB, same_refl', hw, hv]; simp
            have HV : Hid (∀ W, Calls Tryd.prog 58 #[.int .i64 vl, .int .i64 (IntKind.i64.wrap (2 ^ wd.toNat))] W fun e w' => e = .returned (.bool false) ∧ W = w') := by
              rw [hwr]; exact fun W => isBelowL_any vl _ false W hv
            clear hn hw hwr hv
            go_wp2_with fail
            first
              | (go_region_with (first | (go_at_call 58; refine (HV.out _).mono ?_; rintro e w5 ⟨rfl, rfl⟩) | (go_at_call 100; refine (HNW.out _).mono ?_; rintro e w4 ⟨rfl, rfl⟩) | (go_at_call 99; refine (HNc.out _).mono ?_; rintro e w3 ⟨rfl, b3⟩; have Bq := D.trans (b3.mono D.size); obtain ⟨l0, l1, l2, l3, l4, l5, l6⟩ := HK2.out _ Bq)))
              | fail
            all_goals
              go_wp2_with fail
              go_ret
              exact ⟨retBl HF.out.symm, HBF.out _ Bq⟩
          | true =>
            have HF : Hid (kindOk 2 nm ⟨#[]⟩ 0 wd vl = true) := by show _ = _; rw [kindOk, if_neg (by decide), if_pos rfl, hn, emptyB, same_refl', hw, hv]; simp
            have HV : Hid (∀ W, Calls Tryd.prog 58 #[.int .i64 vl, .int .i64 (IntKind.i64.wrap (2 ^ wd.toNat))] W fun e w' => e = .returned (.bool true) ∧ W = w') := by
              rw [hwr]; exact fun W => isBelowL_any vl _ true W hv
            clear hn hw hwr hv
            go_wp2_with fail
            first
              | (go_region_with (first | (go_at_call 58; refine (HV.out _).mono ?_; rintro e w5 ⟨rfl, rfl⟩) | (go_at_call 100; refine (HNW.out _).mono ?_; rintro e w4 ⟨rfl, rfl⟩) | (go_at_call 99; refine (HNc.out _).mono ?_; rintro e w3 ⟨rfl, b3⟩; have Bq := D.trans (b3.mono D.size); obtain ⟨l0, l1, l2, l3, l4, l5, l6⟩ := HK2.out _ Bq)))
              | fail
            all_goals
              go_wp2_with fail
              go_ret
              exact ⟨retBl HF.out.symm, HBF.out _ Bq⟩
      · have HF : Hid (kindOk 2 nm ⟨#[]⟩ py wd vl = false) := by show _ = _; rw [kindOk, if_neg (by decide), if_pos rfl, hn, emptyB, same_refl', decide_eq_false hp]; simp
        have hp2 : (py == 0) = false := by simpa using hp
        clear hn
        go_wp2_with fail
        first
          | (go_region_with (first | (go_at_call 99; refine (HNc.out _).mono ?_; rintro e w3 ⟨rfl, b3⟩; have Bq := D.trans (b3.mono D.size); obtain ⟨l0, l1, l2, l3, l4, l5, l6⟩ := HK2.out _ Bq)))
          | fail
        all_goals
          go_wp2_with fail
          go_ret
          exact ⟨retBl HF.out.symm, HBF.out _ Bq⟩
    · have HF : Hid (kindOk 2 nm o py wd vl = false) := by show _ = _; rw [kindOk, if_neg (by decide), if_pos rfl, hn, same_no (b := ByteArray.empty) ho]; simp
      have ho2 := empty_ne ho
      have ho3 : o.toList.isEmpty = false := by simpa using ho2
      clear ho hn
      go_wp2_with fail
      first
        | (go_region_with (first | (go_at_call 99; refine (HNc.out _).mono ?_; rintro e w3 ⟨rfl, b3⟩; have Bq := D.trans (b3.mono D.size); obtain ⟨l0, l1, l2, l3, l4, l5, l6⟩ := HK2.out _ Bq)))
        | fail
      all_goals
        go_wp2_with fail
        go_ret
        exact ⟨retBl HF.out.symm, HBF.out _ Bq⟩

end Go.Proofs.YtcbofogmfelpkaaDoor
