/- The elements that stand at the results of a program (atLines with isResult). For lists of at most 1048576 lines. -/
import Derived.Test.YtcbofogmfelpkaaDoorLnG4
import Derived.Test.YtcbofogmfelpkaaDoorLnI14
namespace Go.Proofs.YtcbofogmfelpkaaDoor
open Go Go.RowKit
set_option maxRecDepth 100000

set_option maxHeartbeats 1000000 in
theorem isResult_any (kd : Int) (nm o : ByteArray) (P : Value) (py wd vl : Int) (w : World) :
    Calls Tryd.prog 50 #[.agg #[.int .i64 kd, .string nm, .string o, P, .int .i64 py, .int .i64 wd, .int .i64 vl]] w fun e w' => e = .returned (.bool (decide (kd = 6))) ∧ Below w.heap.size w w' := by
  have HB := Lib.hid (belowNew w (.cells #[.int .i64 kd, .string nm, .string o, P, .int .i64 py, .int .i64 wd, .int .i64 vl] 53))
  go_enter Tryd.func50, Tryd.ntmps50
  go_wp2_with fail
  go_ret
  exact ⟨retBl (by rfl), HB.out⟩

set_option maxRecDepth 100000 in
set_option maxHeartbeats 4000000 in
theorem atLinesOut_any (A : Option Addr) (n c : Nat) (ls : List Ln) (U : Option Addr) (cU : Nat) (zs : List Int) (w : World) (h : HasL w A n ls) (hn : n ≤ 1048576) (hu : Has w U n zs) :
    Calls Tryd.prog 49 #[.slice A n c, .slice U n cU, .func (.func 50) #[] #[]] w fun e w' => ∃ R m c', e = .returned (.slice R m c') ∧ Own w' w.heap.size R m c' (outsOf ls zs) ∧ m ≤ n ∧ Below w.heap.size w w' := by
  have HH := Lib.hid h
  have HU := Lib.hid hu
  have HL : Hid (ls.length = n) := h.1
  have HO : Hid (Own w w.heap.size none 0 0 (outsTo ls zs 0)) := Own.nil_ _ _
  clear h hu
  go_enter Tryd.func49, Tryd.ntmps49
  go_wp2_with fail
  go_loopw [7, 12] (fun v i wr => ∃ (k : Nat) (R : Option Addr) (m c' : Nat), k ≤ n ∧ m ≤ k ∧ i = .int .i64 k ∧ v = .slice R m c' ∧ Own wr w.heap.size R m c' (outsTo ls zs k) ∧ Below w.heap.size w wr) (fun _ i _ => n - (intOf i).toNat)
  case atStart => exact ⟨0, none, 0, 0, Nat.zero_le _, Nat.le_refl _, rfl, rfl, HO.out, Below.refl _ _⟩
  case round =>
    obtain ⟨k, R, m, c', hk, hmk, rfl, rfl, ho, bk⟩ := hrel
    by_cases hlt : k < n
    · obtain ⟨ad, kd, nm, o, ps, py, wd, vl, P, q, d, rfl, hc, _, _, _, HT⟩ := (HH.out.below bk).line hlt
      obtain ⟨c0, c1, c2, c3, c4, c5, c6⟩ := hc.cells
      have k0 : (0 : Int) ≤ (k : Int) := by omega
      have k1 : (k : Int) < (n : Int) := by omega
      have hst := outsTo_step ls zs k
      rw [HT.out] at hst
      have sz := bk.size
      have b2 := belowNew wr (.cells #[.int .i64 kd, .string nm, .string o, .slice P q d, .int .i64 py, .int .i64 wd, .int .i64 vl] 53)
      have y2 := Blk.new wr #[.int .i64 kd, .string nm, .string o, .slice P q d, .int .i64 py, .int .i64 wd, .int .i64 vl] 53
      obtain ⟨W2, hW2⟩ : ∃ W, W = wr.alloc (.cells #[.int .i64 kd, .string nm, .string o, .slice P q d, .int .i64 py, .int .i64 wd, .int .i64 vl] 53) := ⟨_, rfl⟩
      rw [← hW2] at b2 y2
      obtain ⟨⟨d0, d1, d2, d3, d4, d5, d6⟩, _⟩ := y2.seven
      have HB2 := Lib.hid b2
      have HOk := Lib.hid ho
      have BK := Lib.hid bk
      clear hc y2 b2 bk ho
      by_cases hk6 : kd = 6
      · subst hk6
        have HIR : Hid (∀ W, Calls Tryd.prog 50 #[.agg #[.int .i64 6, .string nm, .string o, .slice P q d, .int .i64 py, .int .i64 wd, .int .i64 vl]] W fun e w' => e = .returned (.bool true) ∧ Below W.heap.size W w') := fun W => isResult_any 6 nm o (.slice P q d) py wd vl W
        have HS : Hid (outsTo ls zs (k + 1) = outsTo ls zs k ++ [zs.getD k 0]) := by show _ = _; rw [hst]; rfl
        clear hst
        go_upto_region 5 with fail
        rw [← hW2]
        clear hW2 c0 c1 c2 c3 c4 c5 c6
        go_wp2_with fail
        refine (HIR.out _).mono ?_
        rintro e w3 ⟨rfl, b3⟩
        have B3 := BK.out.trans ((HB2.out.trans (b3.mono HB2.out.size)).mono sz)
        have ho3 := (HOk.out.below HB2.out).below b3
        obtain ⟨au, z, rfl, hcz, HZ⟩ := (HU.out.below B3).elem hlt
        have s3 := B3.size
        clear b3
        go_wp2_with (at_builtin; refine appendInt w3 rfl (.tmp 20) (.tmp 25) rfl z w.heap.size _ m _ rfl rfl ho3.2 (by omega) s3 ?_; intro v4 w4 own4 b4)
        rw [HZ.out, ← HS.out] at own4
        obtain ⟨R4, c4', rfl, ho4⟩ := ownOf own4
        go_roundw
        case rel => exact ⟨k + 1, R4, m + 1, c4', by omega, by omega, by go_num, rfl, ho4, B3.trans b4⟩
        case measure => simp [intOf]; omega
      · have HIR : Hid (∀ W, Calls Tryd.prog 50 #[.agg #[.int .i64 kd, .string nm, .string o, .slice P q d, .int .i64 py, .int .i64 wd, .int .i64 vl]] W fun e w' => e = .returned (.bool false) ∧ Below W.heap.size W w') := fun W => by
          have h1 := isResult_any kd nm o (.slice P q d) py wd vl W
          rwa [decide_eq_false hk6] at h1
        have HS : Hid (outsTo ls zs (k + 1) = outsTo ls zs k) := by show _ = _; rw [hst]; simp [hk6]
        clear hst hk6
        go_upto_region 5 with fail
        rw [← hW2]
        clear hW2 c0 c1 c2 c3 c4 c5 c6
        go_wp2_with fail
        refine (HIR.out _).mono ?_
        rintro e w3 ⟨rfl, b3⟩
        have B3 := BK.out.trans ((HB2.out.trans (b3.mono HB2.out.size)).mono sz)
        have ho3 := (HOk.out.below HB2.out).below b3
        clear b3
        go_wp2_with fail
        go_roundw
        case rel => exact ⟨k + 1, R, m, c', by omega, by omega, by go_num, rfl, by rw [HS.out]; exact ho3, B3⟩
        case measure => simp [intOf]; omega
    · obtain rfl : k = n := by omega
      have HF : Hid (Own wr w.heap.size R m c' (outsOf ls zs)) := by show Own _ _ _ _ _ _; rw [← outsTo_all, HL.out]; exact ho
      go_wp2_with fail
      go_ret
      exact ⟨R, m, c', rfl, HF.out, hmk, bk⟩

end Go.Proofs.YtcbofogmfelpkaaDoor
