/- The program's test of all lines by themselves (areLines). For lists of at most 1048576 lines. The forms of the lines and the words of the operations are as start-up lays them. -/
import Derived.Test.YtcbofogmfelpkaaDoorLnI6
import Derived.Test.YtcbofogmfelpkaaDoorLnG2
namespace Go.Proofs.YtcbofogmfelpkaaDoor
open Go Go.RowKit Go.Shelf
set_option maxRecDepth 100000

theorem allL_no {p : Ln → Bool} {ls : List Ln} {k : Nat} (hk : k < ls.length) (h : p (lnAt ls k) = false) : ls.all p = false := by
  rw [List.all_eq_false]
  refine ⟨ls[k], List.getElem_mem hk, ?_⟩
  have e : lnAt ls k = ls[k] := by simp [lnAt, List.getD_eq_getElem?_getD, List.getElem?_eq_getElem hk]
  rw [← e, h]; simp
theorem allL_yes {p : Ln → Bool} {ls : List Ln} (h : ∀ k, k < ls.length → p (lnAt ls k) = true) : ls.all p = true := by
  rw [List.all_eq_true]
  intro x hx
  obtain ⟨k, hk, rfl⟩ := List.getElem_of_mem hx
  have e : lnAt ls k = ls[k] := by simp [lnAt, List.getD_eq_getElem?_getD, List.getElem?_eq_getElem hk]
  rw [← e]
  exact h k hk

set_option maxRecDepth 100000 in
set_option maxHeartbeats 1000000 in
theorem areLines1_any (kd : Int) (nm o : ByteArray) (ps : List ByteArray) (py wd vl : Int) (P : Option Addr) (m d : Nat) (w : World) (hp : ps.length = m) (hs : nm.size ≤ 16777216) (hF : Forms w) (hW : OpWords w) :
    Calls Tryd.prog 78 #[.agg #[.int .i64 kd, .string nm, .string o, .slice P m d, .int .i64 py, .int .i64 wd, .int .i64 vl]] w fun e w' => e = .returned (.bool (!lineOk ⟨kd, nm, o, ps, py, wd, vl⟩)) ∧ Below w.heap.size w w' := by
  have HI : Hid (∀ W, Below w.heap.size w W → Calls Tryd.prog 79 #[.agg #[.int .i64 kd, .string nm, .string o, .slice P m d, .int .i64 py, .int .i64 wd, .int .i64 vl]] W fun e w' => e = .returned (.bool (lineOk ⟨kd, nm, o, ps, py, wd, vl⟩)) ∧ Below W.heap.size W w') :=
    fun W hb => isLine_any ⟨kd, nm, o, ps, py, wd, vl⟩ P m d W hp hs (hF.below hb) (hW.below hb)
  have HB := Lib.hid (belowNew w (.cells #[.int .i64 kd, .string nm, .string o, .slice P m d, .int .i64 py, .int .i64 wd, .int .i64 vl] 53))
  obtain ⟨b, hb⟩ : ∃ b, lineOk ⟨kd, nm, o, ps, py, wd, vl⟩ = b := ⟨_, rfl⟩
  rw [hb] at HI ⊢
  clear hF hW hp hs hb
  go_enter Tryd.func78, Tryd.ntmps78
  go_wp2_with fail
  refine (HI.out _ HB.out).mono ?_
  rintro e w2 ⟨rfl, b2⟩
  have HB2 := Lib.hid (HB.out.trans (b2.mono HB.out.size))
  clear b2
  go_wp2_with fail
  go_ret
  exact ⟨rfl, HB2.out⟩

set_option maxRecDepth 100000 in
set_option maxHeartbeats 2000000 in
theorem areLinesIdx_any (A : Option Addr) (n c : Nat) (ls : List Ln) (b : Bool) (w : World) (h : HasL w A n ls) (hn : n ≤ 1048576) (hz : ∀ j, j < n → FitL (lnAt ls j)) (hF : Forms w) (hW : OpWords w) (hb : ls.all lineOk = b) :
    Calls Tryd.prog 87 #[.slice A n c, .func (.func 78) #[] #[]] w fun e w' => ∃ j : Int, e = .returned (.int .i64 j) ∧ decide (0 ≤ j) = (!b) ∧ Below w.heap.size w w' := by
  have HH := Lib.hid h
  have HL : Hid (ls.length = n) := h.1
  have HZ := Lib.hid hz
  have HB := Lib.hid hb
  have HFo := Lib.hid hF
  have HWo := Lib.hid hW
  clear h hz hb hF hW
  go_enter Tryd.func87, Tryd.ntmps87
  go_wp2_with fail
  go_loopw [8] (fun i wr => ∃ k : Nat, k ≤ n ∧ i = .int .i64 k ∧ Hid (∀ j, j < k → lineOk (lnAt ls j) = true) ∧ Below w.heap.size w wr) (fun i _ => n - (intOf i).toNat)
  case atStart => exact ⟨0, Nat.zero_le _, rfl, fun j hj => absurd hj (by omega), Below.refl _ _⟩
  case round =>
    obtain ⟨k, hk, rfl, HN, bk⟩ := hrel
    by_cases hlt : k < n
    · obtain ⟨ad, kd, nm, o, ps, py, wd, vl, P, q, d, rfl, hc, hp, _, _, HT⟩ := (HH.out.below bk).line hlt
      obtain ⟨c0, c1, c2, c3, c4, c5, c6⟩ := hc.cells
      have hfit := HZ.out k hlt
      rw [HT.out] at hfit
      have hnl : nm.size ≤ 16777216 := by have h2 := hfit.name; simp only at h2; omega
      have q0 : (0 : Int) ≤ (k : Int) := by omega
      have q1 : (k : Int) < (n : Int) := by omega
      obtain ⟨y, hy⟩ : ∃ y, lineOk ⟨kd, nm, o, ps, py, wd, vl⟩ = y := ⟨_, rfl⟩
      have HC := Lib.hid (areLines1_any kd nm o ps py wd vl P q d wr hp.1 hnl (HFo.out.below bk) (HWo.out.below bk))
      rw [hy] at HC
      have HY : Hid (lineOk (lnAt ls k) = y) := by show _ = _; rw [HT.out]; exact hy
      have BK := Lib.hid bk
      clear hy bk hc hp hfit hnl HT
      cases y with
      | false =>
        have e : b = false := by rw [← HB.out]; exact allL_no (by rw [HL.out]; exact hlt) HY.out
        subst e
        go_wp2_with fail
        refine (HC.out).mono ?_
        rintro e w2 ⟨rfl, b2⟩
        go_wp2_with fail
        go_ret
        exact ⟨(k : Int), rfl, by simp, BK.out.trans (b2.mono BK.out.size)⟩
      | true =>
        have HN2 : Hid (∀ j, j < k + 1 → lineOk (lnAt ls j) = true) := fun j hj => by
          by_cases e : j = k
          · rw [e]; exact HY.out
          · exact HN.out j (by omega)
        go_wp2_with fail
        refine (HC.out).mono ?_
        rintro e w2 ⟨rfl, b2⟩
        go_wp2_with fail
        go_roundw
        case rel => exact ⟨k + 1, by omega, by go_num, HN2, BK.out.trans (b2.mono BK.out.size)⟩
        case measure => simp [intOf]; omega
    · have e : b = true := by rw [← HB.out]; exact allL_yes (fun j hj => HN.out j (by have := HL.out; omega))
      subst e
      go_wp2_with fail
      go_ret
      exact ⟨-1, rfl, rfl, bk⟩

set_option maxHeartbeats 1000000 in
theorem areLines_any (A : Option Addr) (n c : Nat) (ls : List Ln) (w : World) (h : HasL w A n ls) (hn : n ≤ 1048576) (hz : ∀ j, j < n → FitL (lnAt ls j)) (hF : Forms w) (hW : OpWords w) :
    Calls Tryd.prog 45 #[.slice A n c] w fun e w' => e = .returned (.bool (ls.all lineOk)) ∧ Below w.heap.size w w' := by
  obtain ⟨b, hb⟩ : ∃ b, ls.all lineOk = b := ⟨_, rfl⟩
  have HI := Lib.hid (areLinesIdx_any A n c ls b w h hn hz hF hW hb)
  have HC : Hid (Calls Tryd.prog 77 #[.slice A n c, .func (.func 78) #[] #[]] w fun e w' => e = .returned (.bool (!b)) ∧ Below w.heap.size w w') := by
    show Calls _ _ _ _ _
    clear hb h hz hF hW
    go_enter Tryd.func77, Tryd.ntmps77
    go_wp2_with fail
    refine (HI.out).mono ?_
    rintro e w2 ⟨j, rfl, hj, b2⟩
    have HJ := Lib.hid hj
    clear hj
    go_wp2_with fail
    go_ret
    exact ⟨by rw [← HJ.out]; rfl, b2⟩
  rw [hb]
  clear hb h hz hF hW HI
  go_enter Tryd.func45, Tryd.ntmps45
  go_wp2_with fail
  refine (HC.out).mono ?_
  rintro e w2 ⟨rfl, b2⟩
  go_wp2_with fail
  go_ret
  exact ⟨by simp, b2⟩

end Go.Proofs.YtcbofogmfelpkaaDoor
