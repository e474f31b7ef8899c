/- The line that gives a name (the program's lineGiving). For lists of at most 1048576 lines. -/
import Derived.Test.YtcbofogmfelpkaaDoorLnI20
namespace Go.Proofs.YtcbofogmfelpkaaDoor
open Go Go.RowKit
set_option maxRecDepth 100000

set_option maxHeartbeats 1000000 in
theorem lineGiving1_any (q1 : Nat) (s : ByteArray) (kd : Int) (nm o : ByteArray) (ps : List ByteArray) (P : Value) (py wd vl : Int) (w : World) (hq : w.cell? ⟨q1, 0, none⟩ = some (.string s)) :
    Calls Tryd.prog 88 #[.agg #[.int .i64 kd, .string nm, .string o, P, .int .i64 py, .int .i64 wd, .int .i64 vl], .pointer (some ⟨q1, 0, none⟩)] w fun e w' => e = .returned (.bool (gives s ⟨kd, nm, o, ps, py, wd, vl⟩)) ∧ Below w.heap.size w w' := by
  have b1 := belowNew w (.cells #[.int .i64 kd, .string nm, .string o, P, .int .i64 py, .int .i64 wd, .int .i64 vl] 53)
  have y1 := Blk.new w #[.int .i64 kd, .string nm, .string o, P, .int .i64 py, .int .i64 wd, .int .i64 vl] 53
  have hq1 := cellKept b1 (World.block_lt_of_cell? w _ hq) hq
  obtain ⟨W1, hW1⟩ : ∃ W, W = w.alloc (.cells #[.int .i64 kd, .string nm, .string o, P, .int .i64 py, .int .i64 wd, .int .i64 vl] 53) := ⟨_, rfl⟩
  rw [← hW1] at b1 y1 hq1
  have HB := Lib.hid b1
  obtain ⟨⟨d0, d1, d2, d3, d4, d5, d6⟩, _⟩ := y1.seven
  clear b1 y1 hq
  by_cases h1 : kd = 6
  · subst h1
    have HF : Hid (gives s ⟨6, nm, o, ps, py, wd, vl⟩ = false) := by show _ = _; simp [gives]
    go_enter Tryd.func88, Tryd.ntmps88
    go_upto_region 1 with fail
    rw [← hW1]
    clear hW1
    go_wp2_with fail
    go_ret
    exact ⟨retBl HF.out.symm, HB.out⟩
  · have h4 : (kd != 6) = true := by simpa using h1
    by_cases h2 : nm = s
    · subst h2
      have HF : Hid (gives nm ⟨kd, nm, o, ps, py, wd, vl⟩ = true) := (gives_iff _ _).2 ⟨h1, rfl⟩
      go_enter Tryd.func88, Tryd.ntmps88
      go_upto_region 1 with fail
      rw [← hW1]
      clear hW1
      go_wp2_with fail
      go_ret
      exact ⟨retBl HF.out.symm, HB.out⟩
    · have HF : Hid (gives s ⟨kd, nm, o, ps, py, wd, vl⟩ = false) := by
        show _ = _
        rw [gives, same_no (show ¬ (Ln.name ⟨kd, nm, o, ps, py, wd, vl⟩) = s from h2), Bool.and_false]
      have h5 := toList_ne h2
      clear h2
      go_enter Tryd.func88, Tryd.ntmps88
      go_upto_region 1 with fail
      rw [← hW1]
      clear hW1
      go_wp2_with fail
      go_ret
      exact ⟨retBl (by rw [HF.out]; simpa using h5), HB.out⟩

set_option maxRecDepth 100000 in
set_option maxHeartbeats 2000000 in
theorem givingIdx_any (q1 : Nat) (s : ByteArray) (A : Option Addr) (n c : Nat) (ls : List Ln) (w : World) (hq : w.cell? ⟨q1, 0, none⟩ = some (.string s)) (h : HasL w A n ls) (hn : n ≤ 1048576) :
    Calls Tryd.prog 87 #[.slice A n c, .func (.func 88) #[] #[.pointer (some ⟨q1, 0, none⟩)]] w fun e w' => e = .returned (.int .i64 (findL ls s)) ∧ Below w.heap.size w w' := by
  have HH := Lib.hid h
  have HL : Hid (ls.length = n) := h.1
  have lq : q1 < w.heap.size := World.block_lt_of_cell? w _ hq
  have HQ := Lib.hid hq
  clear h hq
  go_enter Tryd.func87, Tryd.ntmps87
  go_wp2_with fail
  go_loopw [8] (fun i wr => ∃ k : Nat, k ≤ n ∧ i = .int .i64 k ∧ Hid (∀ j, j < k → gives s (lnAt ls j) = false) ∧ Below w.heap.size w wr) (fun i _ => n - (intOf i).toNat)
  case atStart => exact ⟨0, Nat.zero_le _, rfl, fun j hj => absurd hj (by omega), Below.refl _ _⟩
  case round =>
    obtain ⟨k, hk, rfl, HN, bk⟩ := hrel
    by_cases hlt : k < n
    · obtain ⟨ad, kd, nm, o, ps, py, wd, vl, P, q, d, rfl, hc, hp, _, _, HT⟩ := (HH.out.below bk).line hlt
      obtain ⟨c0, c1, c2, c3, c4, c5, c6⟩ := hc.cells
      have q0 : (0 : Int) ≤ (k : Int) := by omega
      have q2 : (k : Int) < (n : Int) := by omega
      obtain ⟨y, hy⟩ : ∃ y, gives s ⟨kd, nm, o, ps, py, wd, vl⟩ = y := ⟨_, rfl⟩
      have HC := Lib.hid (lineGiving1_any q1 s kd nm o ps (.slice P q d) py wd vl wr (cellKept bk lq HQ.out))
      rw [hy] at HC
      have HY : Hid (gives s (lnAt ls k) = y) := by show _ = _; rw [HT.out]; exact hy
      have BK := Lib.hid bk
      clear hy bk hc hp HT
      cases y with
      | true =>
        have HF : Hid (findL ls s = (k : Int)) := findL_hit (by rw [HL.out]; exact hlt) HY.out HN.out
        go_wp2_with fail
        refine (HC.out).mono ?_
        rintro e w2 ⟨rfl, b2⟩
        go_wp2_with fail
        go_ret
        exact ⟨retI HF.out.symm, BK.out.trans (b2.mono BK.out.size)⟩
      | false =>
        have HN2 : Hid (∀ j, j < k + 1 → gives s (lnAt ls j) = false) := fun j hj => by
          by_cases e : j = k
          · rw [e]; exact HY.out
          · exact HN.out j (by omega)
        go_wp2_with fail
        refine (HC.out).mono ?_
        rintro e w2 ⟨rfl, b2⟩
        go_wp2_with fail
        go_roundw
        case rel => exact ⟨k + 1, by omega, by go_num, HN2, BK.out.trans (b2.mono BK.out.size)⟩
        case measure => simp [intOf]; omega
    · have HF : Hid (findL ls s = -1) := findL_none (fun j hj => HN.out j (by have := HL.out; omega))
      go_wp2_with fail
      go_ret
      exact ⟨retI HF.out.symm, bk⟩

set_option maxHeartbeats 1000000 in
theorem lineGiving_any (A : Option Addr) (n c : Nat) (ls : List Ln) (s : ByteArray) (w : World) (h : HasL w A n ls) (hn : n ≤ 1048576) :
    Calls Tryd.prog 55 #[.slice A n c, .string s] w fun e w' => e = .returned (.int .i64 (findL ls s)) ∧ Below w.heap.size w w' := by
  have HB := Lib.hid (belowNew w (.cells #[.string s] 9))
  have hC : (w.alloc (.cells #[.string s] 9)).cell? ⟨w.heap.size, 0, none⟩ = some (.string s) := (Blk.new w #[.string s] 9).cell (i := 0) rfl
  have HG := Lib.hid (givingIdx_any w.heap.size s A n c ls _ hC (h.below HB.out) hn)
  clear h hC
  go_enter Tryd.func55, Tryd.ntmps55
  go_wp2_with fail
  refine (HG.out).mono ?_
  rintro e w2 ⟨rfl, b2⟩
  have HB2 := Lib.hid (HB.out.trans (b2.mono HB.out.size))
  clear b2
  go_wp2_with fail
  go_ret
  exact ⟨rfl, HB2.out⟩

end Go.Proofs.YtcbofogmfelpkaaDoor
