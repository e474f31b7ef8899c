/- The widths of the inputs of a party, and their sum (atLines with isInputOf, inputWidths, bitsOfParty). For lists of at most 1048576 lines. -/
import Derived.Test.YtcbofogmfelpkaaDoorLnI16
namespace Go.Proofs.YtcbofogmfelpkaaDoor
open Go Go.RowKit
set_option maxRecDepth 100000

set_option maxRecDepth 100000 in
set_option maxHeartbeats 4000000 in
theorem atLinesIn_any (q1 : Nat) (p : Int) (A : Option Addr) (n c : Nat) (ls : List Ln) (U : Option Addr) (cU : Nat) (w : World) (hq : w.cell? ⟨q1, 0, none⟩ = some (.int .i64 p)) (h : HasL w A n ls) (hn : n ≤ 1048576) (hu : Has w U n (mapTo (fun j => (lnAt ls j).width) n)) :
    Calls Tryd.prog 49 #[.slice A n c, .slice U n cU, .func (.func 109) #[] #[.pointer (some ⟨q1, 0, none⟩)]] w fun e w' => ∃ R m c', e = .returned (.slice R m c') ∧ Own w' w.heap.size R m c' (inputsOf p ls) ∧ m ≤ n ∧ Below w.heap.size w w' := by
  have HH := Lib.hid h
  have HU := Lib.hid hu
  have HL : Hid (ls.length = n) := h.1
  have lq1 : q1 < w.heap.size := World.block_lt_of_cell? w _ hq
  have HQ := Lib.hid hq
  have HO : Hid (Own w w.heap.size none 0 0 (inputsOf p (ls.take 0))) := Own.nil_ _ _
  clear h hu hq
  go_enter Tryd.func49, Tryd.ntmps49
  go_wp2_with fail
  go_loopw [7, 12] (fun v i wr => ∃ (k : Nat) (R : Option Addr) (m c' : Nat), k ≤ n ∧ m ≤ k ∧ i = .int .i64 k ∧ v = .slice R m c' ∧ Own wr w.heap.size R m c' (inputsOf p (ls.take k)) ∧ Below w.heap.size w wr) (fun _ i _ => n - (intOf i).toNat)
  case atStart => exact ⟨0, none, 0, 0, Nat.zero_le _, Nat.le_refl _, rfl, rfl, HO.out, Below.refl _ _⟩
  case round =>
    obtain ⟨k, R, m, c', hk, hmk, rfl, rfl, ho, bk⟩ := hrel
    by_cases hlt : k < n
    · obtain ⟨ad, kd, nm, o, ps, py, wd, vl, P, q, d, rfl, hc, _, _, _, HT⟩ := (HH.out.below bk).line hlt
      obtain ⟨c0, c1, c2, c3, c4, c5, c6⟩ := hc.cells
      have k0 : (0 : Int) ≤ (k : Int) := by omega
      have k1 : (k : Int) < (n : Int) := by omega
      have hst := inputsOf_step p ls k (by rw [HL.out]; exact hlt)
      rw [HT.out] at hst
      have sz := bk.size
      have b2 := belowNew wr (.cells #[.int .i64 kd, .string nm, .string o, .slice P q d, .int .i64 py, .int .i64 wd, .int .i64 vl] 53)
      have y2 := Blk.new wr #[.int .i64 kd, .string nm, .string o, .slice P q d, .int .i64 py, .int .i64 wd, .int .i64 vl] 53
      obtain ⟨W2, hW2⟩ : ∃ W, W = wr.alloc (.cells #[.int .i64 kd, .string nm, .string o, .slice P q d, .int .i64 py, .int .i64 wd, .int .i64 vl] 53) := ⟨_, rfl⟩
      rw [← hW2] at b2 y2
      obtain ⟨⟨d0, d1, d2, d3, d4, d5, d6⟩, _⟩ := y2.seven
      have HB2 := Lib.hid b2
      have HOk := Lib.hid ho
      have BK := Lib.hid bk
      clear hc y2 b2 bk ho
      by_cases hk6 : kd = 1 ∧ py = p
      · obtain ⟨rfl, rfl⟩ := hk6
        have HIR : Hid (∀ W, Below w.heap.size w W → Calls Tryd.prog 109 #[.agg #[.int .i64 1, .string nm, .string o, .slice P q d, .int .i64 py, .int .i64 wd, .int .i64 vl], .pointer (some ⟨q1, 0, none⟩)] W fun e w' => e = .returned (.bool true) ∧ Below W.heap.size W w') := fun W hb => by
          have h1 := isInputOf1_any q1 py 1 nm o (.slice P q d) py wd vl W (cellKept hb lq1 HQ.out)
          rwa [decide_eq_true ⟨rfl, rfl⟩] at h1
        have HS : Hid (inputsOf py (ls.take (k + 1)) = inputsOf py (ls.take k) ++ [wd]) := by show _ = _; rw [hst]; simp
        clear hst
        go_upto_region 5 with fail
        rw [← hW2]
        clear hW2 c0 c1 c2 c3 c4 c5 c6
        go_wp2_with fail
        refine (HIR.out _ (BK.out.trans (HB2.out.mono sz))).mono ?_
        rintro e w3 ⟨rfl, b3⟩
        have B3 := BK.out.trans ((HB2.out.trans (b3.mono HB2.out.size)).mono sz)
        have ho3 := (HOk.out.below HB2.out).below b3
        obtain ⟨au, z, rfl, hcz, HZ⟩ := (HU.out.below B3).elem hlt
        have s3 := B3.size
        clear b3
        go_wp2_with (at_builtin; refine appendInt w3 rfl (.tmp 20) (.tmp 25) rfl z w.heap.size _ m _ rfl rfl ho3.2 (by omega) s3 ?_; intro v4 w4 own4 b4)
        have hzw : z = wd := by rw [HZ.out, mapTo_at _ hlt, HT.out]
        rw [hzw, ← HS.out] at own4
        obtain ⟨R4, c4', rfl, ho4⟩ := ownOf own4
        go_roundw
        case rel => exact ⟨k + 1, R4, m + 1, c4', by omega, by omega, by go_num, rfl, ho4, B3.trans b4⟩
        case measure => simp [intOf]; omega
      · have HIR : Hid (∀ W, Below w.heap.size w W → Calls Tryd.prog 109 #[.agg #[.int .i64 kd, .string nm, .string o, .slice P q d, .int .i64 py, .int .i64 wd, .int .i64 vl], .pointer (some ⟨q1, 0, none⟩)] W fun e w' => e = .returned (.bool false) ∧ Below W.heap.size W w') := fun W hb => by
          have h1 := isInputOf1_any q1 p kd nm o (.slice P q d) py wd vl W (cellKept hb lq1 HQ.out)
          rwa [decide_eq_false hk6] at h1
        have HS : Hid (inputsOf p (ls.take (k + 1)) = inputsOf p (ls.take k)) := by show _ = _; rw [hst, if_neg hk6, List.append_nil]
        clear hst hk6
        go_upto_region 5 with fail
        rw [← hW2]
        clear hW2 c0 c1 c2 c3 c4 c5 c6
        go_wp2_with fail
        refine (HIR.out _ (BK.out.trans (HB2.out.mono sz))).mono ?_
        rintro e w3 ⟨rfl, b3⟩
        have B3 := BK.out.trans ((HB2.out.trans (b3.mono HB2.out.size)).mono sz)
        have ho3 := (HOk.out.below HB2.out).below b3
        clear b3
        go_wp2_with fail
        go_roundw
        case rel => exact ⟨k + 1, R, m, c', by omega, by omega, by go_num, rfl, by rw [HS.out]; exact ho3, B3⟩
        case measure => simp [intOf]; omega
    · obtain rfl : k = n := by omega
      have HF : Hid (Own wr w.heap.size R m c' (inputsOf p ls)) := by show Own _ _ _ _ _ _; rw [show ls = ls.take k from (List.take_of_length_le (by rw [HL.out]; omega)).symm]; exact ho
      go_wp2_with fail
      go_ret
      exact ⟨R, m, c', rfl, HF.out, hmk, bk⟩

end Go.Proofs.YtcbofogmfelpkaaDoor
