/- The program's test of a line by itself: lines with parts, and lines of no kind. -/
import Derived.Test.YtcbofogmfelpkaaDoorLnI3
namespace Go.Proofs.YtcbofogmfelpkaaDoor
open Go Go.RowKit Go.Shelf
set_option maxRecDepth 100000

set_option maxRecDepth 100000 in
set_option maxHeartbeats 4000000 in
theorem isLine_4 (nm o : ByteArray) (P : Option Addr) (d : Nat) (py wd vl : Int) (w : World) (hs : nm.size ≤ 16777216) (hF : Forms w) :
    Calls Tryd.prog 79 #[.agg #[.int .i64 4, .string nm, .string o, .slice P 1 d, .int .i64 py, .int .i64 wd, .int .i64 vl]] w fun e w' => e = .returned (.bool (kindOk 4 nm o py wd vl)) ∧ Below w.heap.size w w' := by
  have b1 := belowNew w (.cells #[.int .i64 4, .string nm, .string o, .slice P 1 d, .int .i64 py, .int .i64 wd, .int .i64 vl] 53)
  have y1 := Blk.new w #[.int .i64 4, .string nm, .string o, .slice P 1 d, .int .i64 py, .int .i64 wd, .int .i64 vl] 53
  have gf : w.cell? ⟨1, 14, none⟩ = some (.int .i64 1) := by have h := hF 4 (by omega); exact h.2.2
  have gl : 1 < w.heap.size := World.block_lt_of_cell? w _ gf
  have gf1 : (w.alloc (.cells #[.int .i64 4, .string nm, .string o, .slice P 1 d, .int .i64 py, .int .i64 wd, .int .i64 vl] 53)).cell? ⟨1, 14, none⟩ = some (.int .i64 1) := by have h := hF.below b1 4 (by omega); exact h.2.2
  obtain ⟨W1, hW1⟩ : ∃ W, W = w.alloc (.cells #[.int .i64 4, .string nm, .string o, .slice P 1 d, .int .i64 py, .int .i64 wd, .int .i64 vl] 53) := ⟨_, rfl⟩
  rw [← hW1] at b1 y1 gf1
  have s1 := b1.size
  have HK : Hid (∀ W', Below W1.heap.size W1 W' → W'.cell? ⟨w.heap.size, 0, none⟩ = some (.int .i64 4) ∧ W'.cell? ⟨w.heap.size, 1, none⟩ = some (.string nm) ∧ W'.cell? ⟨w.heap.size, 2, none⟩ = some (.string o) ∧ W'.cell? ⟨w.heap.size, 3, none⟩ = some (.slice P 1 d) ∧ W'.cell? ⟨w.heap.size, 4, none⟩ = some (.int .i64 py) ∧ W'.cell? ⟨w.heap.size, 5, none⟩ = some (.int .i64 wd) ∧ W'.cell? ⟨w.heap.size, 6, none⟩ = some (.int .i64 vl)) :=
    fun W' hb => (y1.below' hb).seven.1
  have HI : Hid (∀ (q l : Int) (b : Bool) (W : World), (decide (0 ≤ q) && decide (q < l)) = b → Calls Tryd.prog 58 #[.int .i64 q, .int .i64 l] W fun e w' => e = .returned (.bool b) ∧ w' = W) :=
    fun q l b W h => (isBelowL_any q l b W h).mono fun _ _ ⟨h1, h2⟩ => ⟨h1, h2.symm⟩
  have HN : Hid (∀ W, Calls Tryd.prog 99 #[.string nm] W fun e w' => e = .returned (.bool (nameOk nm)) ∧ Below W.heap.size W w') := fun W => isName_any nm W hs
  have HB1 := Lib.hid b1
  obtain ⟨⟨k0, k1, k2, k3, k4, k5, k6⟩, _⟩ := y1.seven
  clear hs hF y1 gf b1
  go_enter Tryd.func79, Tryd.ntmps79
  go_upto_region 1 with fail
  rw [← hW1]
  clear hW1
  go_cut [17] (fun v wx => v = .bool false ∧ Below W1.heap.size W1 wx)
  case first =>
    go_quiet ((go_at_call 58; exact Calls.quiet_of_same (HI.out _ _ true _ (by decide))))
    go_wp2_with fail
    go_meet
    exact ⟨rfl, below_drewN (Below.refl _ _) _⟩
  case rest =>
  obtain ⟨rfl, B2⟩ := hcut
  obtain ⟨w2, rfl⟩ : ∃ x, x = wc := ⟨_, rfl⟩
  clear k0 k1 k2 k3 k4 k5 k6 gf1
  obtain ⟨k0, k1, k2, k3, k4, k5, k6⟩ := HK.out _ B2
  have BT : Hid (Below w.heap.size w w2) := HB1.out.trans (B2.mono s1)
  go_wp2_with fail
  refine (HN.out _).mono ?_
  rintro e w3 ⟨rfl, b3⟩
  have B3 := B2.trans (b3.mono B2.size)
  have BT3 := Lib.hid (HB1.out.trans (B3.mono s1))
  obtain ⟨l0, l1, l2, l3, l4, l5, l6⟩ := HK.out _ B3
  clear k0 k1 k2 k3 k4 k5 k6 b3 B2
  cases hn : nameOk nm with
  | false =>
    have HF : Hid (kindOk 4 nm o py wd vl = false) := by show _ = _; simp [kindOk, hn]
    go_wp2_with fail
    go_ret
    exact ⟨retBl HF.out.symm, BT3.out⟩
  | true =>
    by_cases ho : o = ⟨#[]⟩
    · subst ho
      have HF : Hid (kindOk 4 nm ⟨#[]⟩ py wd vl = plainL py wd vl) := by show _ = _; simp [kindOk, hn, emptyB, same_refl']
      go_wp2_with fail
      refine (isWithoutNumbers_any 4 nm ⟨#[]⟩ (.slice P 1 d) py wd vl _).mono ?_
      rintro e w6 ⟨rfl, b6⟩
      have B6 := Lib.hid (BT3.out.trans (b6.mono BT3.out.size))
      clear b6
      go_wp2_with fail
      go_ret
      exact ⟨retBl HF.out.symm, B6.out⟩
    · have HF : Hid (kindOk 4 nm o py wd vl = false) := by show _ = _; simp [kindOk, same_no (b := ByteArray.empty) ho]
      have ho2 := empty_ne ho
      clear ho
      go_wp2_with fail
      go_ret
      exact ⟨retBl HF.out.symm, BT3.out⟩

set_option maxRecDepth 100000 in
set_option maxHeartbeats 4000000 in
theorem isLine_5 (nm o : ByteArray) (P : Option Addr) (d : Nat) (py wd vl : Int) (w : World) (hs : nm.size ≤ 16777216) (hF : Forms w) :
    Calls Tryd.prog 79 #[.agg #[.int .i64 5, .string nm, .string o, .slice P 3 d, .int .i64 py, .int .i64 wd, .int .i64 vl]] w fun e w' => e = .returned (.bool (kindOk 5 nm o py wd vl)) ∧ Below w.heap.size w w' := by
  have b1 := belowNew w (.cells #[.int .i64 5, .string nm, .string o, .slice P 3 d, .int .i64 py, .int .i64 wd, .int .i64 vl] 53)
  have y1 := Blk.new w #[.int .i64 5, .string nm, .string o, .slice P 3 d, .int .i64 py, .int .i64 wd, .int .i64 vl] 53
  have gf : w.cell? ⟨1, 17, none⟩ = some (.int .i64 3) := by have h := hF 5 (by omega); exact h.2.2
  have gl : 1 < w.heap.size := World.block_lt_of_cell? w _ gf
  have gf1 : (w.alloc (.cells #[.int .i64 5, .string nm, .string o, .slice P 3 d, .int .i64 py, .int .i64 wd, .int .i64 vl] 53)).cell? ⟨1, 17, none⟩ = some (.int .i64 3) := by have h := hF.below b1 5 (by omega); exact h.2.2
  obtain ⟨W1, hW1⟩ : ∃ W, W = w.alloc (.cells #[.int .i64 5, .string nm, .string o, .slice P 3 d, .int .i64 py, .int .i64 wd, .int .i64 vl] 53) := ⟨_, rfl⟩
  rw [← hW1] at b1 y1 gf1
  have s1 := b1.size
  have HK : Hid (∀ W', Below W1.heap.size W1 W' → W'.cell? ⟨w.heap.size, 0, none⟩ = some (.int .i64 5) ∧ W'.cell? ⟨w.heap.size, 1, none⟩ = some (.string nm) ∧ W'.cell? ⟨w.heap.size, 2, none⟩ = some (.string o) ∧ W'.cell? ⟨w.heap.size, 3, none⟩ = some (.slice P 3 d) ∧ W'.cell? ⟨w.heap.size, 4, none⟩ = some (.int .i64 py) ∧ W'.cell? ⟨w.heap.size, 5, none⟩ = some (.int .i64 wd) ∧ W'.cell? ⟨w.heap.size, 6, none⟩ = some (.int .i64 vl)) :=
    fun W' hb => (y1.below' hb).seven.1
  have HI : Hid (∀ (q l : Int) (b : Bool) (W : World), (decide (0 ≤ q) && decide (q < l)) = b → Calls Tryd.prog 58 #[.int .i64 q, .int .i64 l] W fun e w' => e = .returned (.bool b) ∧ w' = W) :=
    fun q l b W h => (isBelowL_any q l b W h).mono fun _ _ ⟨h1, h2⟩ => ⟨h1, h2.symm⟩
  have HN : Hid (∀ W, Calls Tryd.prog 99 #[.string nm] W fun e w' => e = .returned (.bool (nameOk nm)) ∧ Below W.heap.size W w') := fun W => isName_any nm W hs
  have HB1 := Lib.hid b1
  obtain ⟨⟨k0, k1, k2, k3, k4, k5, k6⟩, _⟩ := y1.seven
  clear hs hF y1 gf b1
  go_enter Tryd.func79, Tryd.ntmps79
  go_upto_region 1 with fail
  rw [← hW1]
  clear hW1
  go_cut [17] (fun v wx => v = .bool false ∧ Below W1.heap.size W1 wx)
  case first =>
    go_quiet ((go_at_call 58; exact Calls.quiet_of_same (HI.out _ _ true _ (by decide))))
    go_wp2_with fail
    go_meet
    exact ⟨rfl, below_drewN (Below.refl _ _) _⟩
  case rest =>
  obtain ⟨rfl, B2⟩ := hcut
  obtain ⟨w2, rfl⟩ : ∃ x, x = wc := ⟨_, rfl⟩
  clear k0 k1 k2 k3 k4 k5 k6 gf1
  obtain ⟨k0, k1, k2, k3, k4, k5, k6⟩ := HK.out _ B2
  have BT : Hid (Below w.heap.size w w2) := HB1.out.trans (B2.mono s1)
  go_wp2_with fail
  refine (HN.out _).mono ?_
  rintro e w3 ⟨rfl, b3⟩
  have B3 := B2.trans (b3.mono B2.size)
  have BT3 := Lib.hid (HB1.out.trans (B3.mono s1))
  obtain ⟨l0, l1, l2, l3, l4, l5, l6⟩ := HK.out _ B3
  clear k0 k1 k2 k3 k4 k5 k6 b3 B2
  cases hn : nameOk nm with
  | false =>
    have HF : Hid (kindOk 5 nm o py wd vl = false) := by show _ = _; simp [kindOk, hn]
    go_wp2_with fail
    go_ret
    exact ⟨retBl HF.out.symm, BT3.out⟩
  | true =>
    by_cases ho : o = ⟨#[]⟩
    · subst ho
      have HF : Hid (kindOk 5 nm ⟨#[]⟩ py wd vl = plainL py wd vl) := by show _ = _; simp [kindOk, hn, emptyB, same_refl']
      go_wp2_with fail
      refine (isWithoutNumbers_any 5 nm ⟨#[]⟩ (.slice P 3 d) py wd vl _).mono ?_
      rintro e w6 ⟨rfl, b6⟩
      have B6 := Lib.hid (BT3.out.trans (b6.mono BT3.out.size))
      clear b6
      go_wp2_with fail
      go_ret
      exact ⟨retBl HF.out.symm, B6.out⟩
    · have HF : Hid (kindOk 5 nm o py wd vl = false) := by show _ = _; simp [kindOk, same_no (b := ByteArray.empty) ho]
      have ho2 := empty_ne ho
      clear ho
      go_wp2_with fail
      go_ret
      exact ⟨retBl HF.out.symm, BT3.out⟩

set_option maxRecDepth 100000 in
set_option maxHeartbeats 4000000 in
theorem isLine_3 (nm o : ByteArray) (P : Option Addr) (d : Nat) (py wd vl : Int) (w : World) (hs : nm.size ≤ 16777216) (hF : Forms w) (hW : OpWords w) :
    Calls Tryd.prog 79 #[.agg #[.int .i64 3, .string nm, .string o, .slice P 2 d, .int .i64 py, .int .i64 wd, .int .i64 vl]] w fun e w' => e = .returned (.bool (kindOk 3 nm o py wd vl)) ∧ Below w.heap.size w w' := by
  have b1 := belowNew w (.cells #[.int .i64 3, .string nm, .string o, .slice P 2 d, .int .i64 py, .int .i64 wd, .int .i64 vl] 53)
  have y1 := Blk.new w #[.int .i64 3, .string nm, .string o, .slice P 2 d, .int .i64 py, .int .i64 wd, .int .i64 vl] 53
  have gf : w.cell? ⟨1, 11, none⟩ = some (.int .i64 2) := by have h := hF 3 (by omega); exact h.2.2
  have gl : 1 < w.heap.size := World.block_lt_of_cell? w _ gf
  have gf1 : (w.alloc (.cells #[.int .i64 3, .string nm, .string o, .slice P 2 d, .int .i64 py, .int .i64 wd, .int .i64 vl] 53)).cell? ⟨1, 11, none⟩ = some (.int .i64 2) := by have h := hF.below b1 3 (by omega); exact h.2.2
  obtain ⟨W1, hW1⟩ : ∃ W, W = w.alloc (.cells #[.int .i64 3, .string nm, .string o, .slice P 2 d, .int .i64 py, .int .i64 wd, .int .i64 vl] 53) := ⟨_, rfl⟩
  rw [← hW1] at b1 y1 gf1
  have s1 := b1.size
  have HK : Hid (∀ W', Below W1.heap.size W1 W' → W'.cell? ⟨w.heap.size, 0, none⟩ = some (.int .i64 3) ∧ W'.cell? ⟨w.heap.size, 1, none⟩ = some (.string nm) ∧ W'.cell? ⟨w.heap.size, 2, none⟩ = some (.string o) ∧ W'.cell? ⟨w.heap.size, 3, none⟩ = some (.slice P 2 d) ∧ W'.cell? ⟨w.heap.size, 4, none⟩ = some (.int .i64 py) ∧ W'.cell? ⟨w.heap.size, 5, none⟩ = some (.int .i64 wd) ∧ W'.cell? ⟨w.heap.size, 6, none⟩ = some (.int .i64 vl)) :=
    fun W' hb => (y1.below' hb).seven.1
  have HI : Hid (∀ (q l : Int) (b : Bool) (W : World), (decide (0 ≤ q) && decide (q < l)) = b → Calls Tryd.prog 58 #[.int .i64 q, .int .i64 l] W fun e w' => e = .returned (.bool b) ∧ w' = W) :=
    fun q l b W h => (isBelowL_any q l b W h).mono fun _ _ ⟨h1, h2⟩ => ⟨h1, h2.symm⟩
  have HN : Hid (∀ W, Calls Tryd.prog 99 #[.string nm] W fun e w' => e = .returned (.bool (nameOk nm)) ∧ Below W.heap.size W w') := fun W => isName_any nm W hs
  have HB1 := Lib.hid b1
  obtain ⟨⟨k0, k1, k2, k3, k4, k5, k6⟩, _⟩ := y1.seven
  clear hs hF y1 gf b1
  have HOW : Hid (∀ W', Below w.heap.size w W' → OpWords W') := fun W' hb => hW.below hb
  clear hW
  go_enter Tryd.func79, Tryd.ntmps79
  go_upto_region 1 with fail
  rw [← hW1]
  clear hW1
  go_cut [17] (fun v wx => v = .bool false ∧ Below W1.heap.size W1 wx)
  case first =>
    go_quiet ((go_at_call 58; exact Calls.quiet_of_same (HI.out _ _ true _ (by decide))))
    go_wp2_with fail
    go_meet
    exact ⟨rfl, below_drewN (Below.refl _ _) _⟩
  case rest =>
  obtain ⟨rfl, B2⟩ := hcut
  obtain ⟨w2, rfl⟩ : ∃ x, x = wc := ⟨_, rfl⟩
  clear k0 k1 k2 k3 k4 k5 k6 gf1
  obtain ⟨k0, k1, k2, k3, k4, k5, k6⟩ := HK.out _ B2
  have BT : Hid (Below w.heap.size w w2) := HB1.out.trans (B2.mono s1)
  go_wp2_with fail
  refine (HN.out _).mono ?_
  rintro e w3 ⟨rfl, b3⟩
  have B3 := B2.trans (b3.mono B2.size)
  have BT3 := Lib.hid (HB1.out.trans (B3.mono s1))
  obtain ⟨l0, l1, l2, l3, l4, l5, l6⟩ := HK.out _ B3
  clear k0 k1 k2 k3 k4 k5 k6 b3 B2
  cases hn : nameOk nm with
  | false =>
    have HF : Hid (kindOk 3 nm o py wd vl = false) := by show _ = _; simp [kindOk, hn]
    go_wp2_with fail
    go_ret
    exact ⟨retBl HF.out.symm, BT3.out⟩
  | true =>
    go_wp2_with fail
    refine (opOf_any o _ (HOW.out _ BT3.out)).mono ?_
    rintro e w4 ⟨rfl, rfl⟩
    by_cases h8 : opIx o = 8
    · have HF : Hid (kindOk 3 nm o py wd vl = false) := by show _ = _; simp [kindOk, h8]
      rw [h8]
      go_wp2_with fail
      go_ret
      exact ⟨retBl HF.out.symm, BT3.out⟩
    · obtain ⟨z, hz⟩ : ∃ z : Int, (opIx o : Int) = z := ⟨_, rfl⟩
      have hz8 : ¬ z = 8 := by omega
      rw [hz]
      have HF0 : Hid (kindOk 3 nm o py wd vl = plainL py wd vl) := by show _ = _; simp [kindOk, hn, h8]
      clear hz h8
      have HF : Hid (kindOk 3 nm o py wd vl = plainL py wd vl) := by show _ = _; exact HF0.out
      go_wp2_with fail
      refine (isWithoutNumbers_any 3 nm o (.slice P 2 d) py wd vl _).mono ?_
      rintro e w6 ⟨rfl, b6⟩
      have B6 := Lib.hid (BT3.out.trans (b6.mono BT3.out.size))
      clear b6
      go_wp2_with fail
      go_ret
      exact ⟨retBl (by rw [HF.out]; simp [hz8]), B6.out⟩

set_option maxRecDepth 100000 in
set_option maxHeartbeats 4000000 in
theorem isLine_6 (nm o : ByteArray) (P : Option Addr) (d : Nat) (py wd vl : Int) (w : World) (hs : nm.size ≤ 16777216) (hF : Forms w) :
    Calls Tryd.prog 79 #[.agg #[.int .i64 6, .string nm, .string o, .slice P 1 d, .int .i64 py, .int .i64 wd, .int .i64 vl]] w fun e w' => e = .returned (.bool (kindOk 6 nm o py wd vl)) ∧ Below w.heap.size w w' := by
  have b1 := belowNew w (.cells #[.int .i64 6, .string nm, .string o, .slice P 1 d, .int .i64 py, .int .i64 wd, .int .i64 vl] 53)
  have y1 := Blk.new w #[.int .i64 6, .string nm, .string o, .slice P 1 d, .int .i64 py, .int .i64 wd, .int .i64 vl] 53
  have gf : w.cell? ⟨1, 20, none⟩ = some (.int .i64 1) := by have h := hF 6 (by omega); exact h.2.2
  have gl : 1 < w.heap.size := World.block_lt_of_cell? w _ gf
  have gf1 : (w.alloc (.cells #[.int .i64 6, .string nm, .string o, .slice P 1 d, .int .i64 py, .int .i64 wd, .int .i64 vl] 53)).cell? ⟨1, 20, none⟩ = some (.int .i64 1) := by have h := hF.below b1 6 (by omega); exact h.2.2
  obtain ⟨W1, hW1⟩ : ∃ W, W = w.alloc (.cells #[.int .i64 6, .string nm, .string o, .slice P 1 d, .int .i64 py, .int .i64 wd, .int .i64 vl] 53) := ⟨_, rfl⟩
  rw [← hW1] at b1 y1 gf1
  have s1 := b1.size
  have HK : Hid (∀ W', Below W1.heap.size W1 W' → W'.cell? ⟨w.heap.size, 0, none⟩ = some (.int .i64 6) ∧ W'.cell? ⟨w.heap.size, 1, none⟩ = some (.string nm) ∧ W'.cell? ⟨w.heap.size, 2, none⟩ = some (.string o) ∧ W'.cell? ⟨w.heap.size, 3, none⟩ = some (.slice P 1 d) ∧ W'.cell? ⟨w.heap.size, 4, none⟩ = some (.int .i64 py) ∧ W'.cell? ⟨w.heap.size, 5, none⟩ = some (.int .i64 wd) ∧ W'.cell? ⟨w.heap.size, 6, none⟩ = some (.int .i64 vl)) :=
    fun W' hb => (y1.below' hb).seven.1
  have HI : Hid (∀ (q l : Int) (b : Bool) (W : World), (decide (0 ≤ q) && decide (q < l)) = b → Calls Tryd.prog 58 #[.int .i64 q, .int .i64 l] W fun e w' => e = .returned (.bool b) ∧ w' = W) :=
    fun q l b W h => (isBelowL_any q l b W h).mono fun _ _ ⟨h1, h2⟩ => ⟨h1, h2.symm⟩
  have HN : Hid (∀ W, Calls Tryd.prog 99 #[.string nm] W fun e w' => e = .returned (.bool (nameOk nm)) ∧ Below W.heap.size W w') := fun W => isName_any nm W hs
  have HB1 := Lib.hid b1
  obtain ⟨⟨k0, k1, k2, k3, k4, k5, k6⟩, _⟩ := y1.seven
  clear hs hF y1 gf b1
  go_enter Tryd.func79, Tryd.ntmps79
  go_upto_region 1 with fail
  rw [← hW1]
  clear hW1
  go_cut [17] (fun v wx => v = .bool false ∧ Below W1.heap.size W1 wx)
  case first =>
    go_quiet ((go_at_call 58; exact Calls.quiet_of_same (HI.out _ _ true _ (by decide))))
    go_wp2_with fail
    go_meet
    exact ⟨rfl, below_drewN (Below.refl _ _) _⟩
  case rest =>
  obtain ⟨rfl, B2⟩ := hcut
  obtain ⟨w2, rfl⟩ : ∃ x, x = wc := ⟨_, rfl⟩
  clear k0 k1 k2 k3 k4 k5 k6 gf1
  obtain ⟨k0, k1, k2, k3, k4, k5, k6⟩ := HK.out _ B2
  have BT : Hid (Below w.heap.size w w2) := HB1.out.trans (B2.mono s1)
  by_cases hm : nm = ⟨#[]⟩
  · subst hm
    by_cases ho : o = ⟨#[]⟩
    · subst ho
      have HF : Hid (kindOk 6 ⟨#[]⟩ ⟨#[]⟩ py wd vl = plainL py wd vl) := by show _ = _; simp [kindOk, emptyB, same_refl']
      go_wp2_with fail
      refine (isWithoutNumbers_any 6 ⟨#[]⟩ ⟨#[]⟩ (.slice P 1 d) py wd vl _).mono ?_
      rintro e w6 ⟨rfl, b6⟩
      have B6 := Lib.hid (BT.out.trans (b6.mono BT.out.size))
      clear b6
      go_wp2_with fail
      go_ret
      exact ⟨retBl HF.out.symm, B6.out⟩
    · have HF : Hid (kindOk 6 ⟨#[]⟩ o py wd vl = false) := by show _ = _; simp [kindOk, same_no (b := ByteArray.empty) ho]
      have ho2 := empty_ne ho
      clear ho
      go_wp2_with fail
      go_ret
      exact ⟨retBl HF.out.symm, BT.out⟩
  · have HF : Hid (kindOk 6 nm o py wd vl = false) := by show _ = _; simp [kindOk, same_no (b := ByteArray.empty) hm]
    have hm2 := empty_ne hm
    clear hm
    go_wp2_with fail
    go_ret
    exact ⟨retBl HF.out.symm, BT.out⟩

end Go.Proofs.YtcbofogmfelpkaaDoor
