/- How many lines have each operation (CountOps): the program's function. For lists of at most 1048576 lines; the forms of the lines and the words of the operations are as start-up lays them. -/
import Derived.Test.YtcbofogmfelpkaaDoorLnF3
namespace Go.Proofs.YtcbofogmfelpkaaDoor
open Go Go.RowKit
set_option maxRecDepth 100000

set_option maxRecDepth 100000 in
set_option maxHeartbeats 4000000 in
theorem impl_CountOps (A : Option Addr) (n c : Nat) (ls : List Ln) (rs : List Int) (rb : Bool) (w : World) (h : HasL w A n ls) (hn : n ≤ 1048576) (_hnc : n ≤ c) (hz : ∀ j, j < n → FitL (lnAt ls j)) (hF : Forms w) (hW : OpWords w) (hm : m_CountOps ls = (rs, rb)) :
    Calls Tryd.prog 41 #[.slice A n c] w fun e w' => ∃ R m c', e = .returned (.tuple #[.slice R m c', .bool rb]) ∧ Own w' w.heap.size R m c' rs ∧ m ≤ 16777216 ∧ Below w.heap.size w w' := by
  have HG := Lib.hid (implIsProgram_any A n c ls w h hn hz hF hW)
  rw [good_same] at HG
  have HH := Lib.hid h
  have HL : Hid (ls.length = n) := h.1
  have HM := Lib.hid hm
  have HWo := Lib.hid hW
  clear h hz hm hF hW
  obtain ⟨b, hb⟩ : ∃ b, goodP ls = b := ⟨_, rfl⟩
  rw [hb] at HG
  have HGo := Lib.hid hb
  clear hb
  cases b with
  | false =>
    have e := HM.out
    rw [m_CountOps, if_neg (by rw [HGo.out]; simp)] at e
    obtain ⟨rfl, rfl⟩ := Prod.mk.inj e
    clear e
    go_enter Tryd.func41, Tryd.ntmps41
    go_wp2_with fail
    refine (HG.out).mono ?_
    rintro e w2 ⟨rfl, b2⟩
    have HB2 := Lib.hid b2
    clear b2
    go_wp2_with fail
    go_ret2
    exact ⟨none, 0, 0, rfl, Own.nil_ _ _, by omega, HB2.out⟩
  | true =>
    have e := HM.out
    rw [m_CountOps, if_pos HGo.out] at e
    obtain ⟨e1, rfl⟩ := Prod.mk.inj e
    have HR := Lib.hid e1
    clear e e1
    have HQ := Lib.hid (good_parts HGo.out)
    go_enter Tryd.func41, Tryd.ntmps41
    go_wp2_with fail
    refine (HG.out).mono ?_
    rintro e w2 ⟨rfl, b2⟩
    have HB2 := Lib.hid b2
    have s2 := b2.size
    clear b2
    go_wp2_with (at_make; refine makeRow _ rfl _ rfl 10 rfl (by omega) ?_; intro w3 hrow hb3)
    have hr0 : Row w3 w2.heap.size w2.heap.size 10 (opTo ls 0) := hrow
    have HB3 := Lib.hid (HB2.out.trans (hb3.mono HB2.out.size))
    clear hrow hb3
    go_loopw [13] (fun iv wr => ∃ k : Nat, k ≤ n ∧ iv = .int .i64 k ∧ Row wr w2.heap.size w2.heap.size 10 (opTo ls k) ∧ Hid (Below w.heap.size w wr)) (fun iv _ => n - (intOf iv).toNat)
    case atStart => exact ⟨0, Nat.zero_le _, rfl, hr0, HB3⟩
    case round =>
      clear hr0
      obtain ⟨k, hk, rfl, hr, bk⟩ := hrel
      by_cases hlt : k < n
      · obtain ⟨ad, kd, nm, o, ps, py, wd, vl, P, q, d, rfl, hc, hp, _, _, HT⟩ := (HH.out.below bk.out).line hlt
        obtain ⟨c0, c1, c2, c3, c4, c5, c6⟩ := hc.cells
        have hok := line_good HQ.out.2.1 (k := k) (by rw [HL.out]; exact hlt)
        rw [HT.out] at hok
        have HOk := Lib.hid hok
        have q0 : (0 : Int) ≤ (k : Int) := by omega
        have q1 : (k : Int) < (n : Int) := by omega
        have k30 : k ≤ 30 := by have := HQ.out.1; have := HL.out; omega
        have sw := hr.lt
        have b6 := belowNew wr (.cells #[.int .i64 kd, .string nm, .string o, .slice P q d, .int .i64 py, .int .i64 wd, .int .i64 vl] 53)
        have y6 := Blk.new wr #[.int .i64 kd, .string nm, .string o, .slice P q d, .int .i64 py, .int .i64 wd, .int .i64 vl] 53
        have r6 := hr.below b6
        obtain ⟨W6, hW6⟩ : ∃ W, W = wr.alloc (.cells #[.int .i64 kd, .string nm, .string o, .slice P q d, .int .i64 py, .int .i64 wd, .int .i64 vl] 53) := ⟨_, rfl⟩
        rw [← hW6] at b6 y6 r6
        have B6 := Lib.hid (bk.out.trans (b6.mono bk.out.size))
        have s6 : wr.heap.size < W6.heap.size := y6.lt
        have HW6 := Lib.hid (HWo.out.below B6.out)
        obtain ⟨⟨d0, d1, d2, d3, d4, d5, d6⟩, _⟩ := y6.seven
        clear hc hp hok hr b6 bk y6
        by_cases h3 : kd = 3
        · subst h3
          obtain ⟨i, hi⟩ : ∃ i, opIx o = i := ⟨_, rfl⟩
          have hi8 : i < 8 := by have := lineOk_op HOk.out rfl; simp only at this; omega
          have HO : Hid (Calls Tryd.prog 72 #[.string o] W6 fun e w' => e = .returned (.int .i64 (i : Int)) ∧ W6 = w') := by
            have h1 := opOf_any o W6 HW6.out
            rw [hi] at h1
            exact h1
          have HS : slotL (lnAt ls k) = i := by rw [HT.out, slotL, if_pos rfl]; exact hi
          obtain ⟨u, hu⟩ : ∃ u, cntOp ls i k = u := ⟨_, rfl⟩
          have hrg := cntOp_range ls i k
          rw [hu] at hrg
          have hcj := r6.cell (k := i) (by omega)
          have hfj := r6.free i
          rw [opTo, mapTo_at _ (by omega), hu] at hcj
          have hwu : IntKind.i64.wrap (u + 1) = u + 1 := wrapIn (by omega) (by omega)
          have r9 := r6.put i (u + 1)
          rw [← hu, opTo_set ls k i HS, hu] at r9
          have HR9 := Lib.hid r9
          have i0 : (0 : Int) ≤ (i : Int) := by omega
          have i1 : (i : Int) < 10 := by omega
          clear hi HS hu r9 r6
          go_upto_region 7 with fail
          rw [← hW6]
          clear hW6 c0 c1 c2 c3 c4 c5 c6
          go_wp2_with fail
          refine (HO.out).mono ?_
          rintro e w7 ⟨rfl, rfl⟩
          go_wp2_with fail
          go_roundw
          case rel => exact ⟨k + 1, by omega, by go_num, HR9.out, B6.out.setCell (by omega) _⟩
          case measure => simp [intOf]; omega
        · have h3b : (kd == 3) = false := by simpa using h3
          by_cases h4k : kd = 4
          · subst h4k
            obtain ⟨u, hu⟩ : ∃ u, cntOp ls 8 k = u := ⟨_, rfl⟩
            have hrg := cntOp_range ls 8 k
            rw [hu] at hrg
            have hcj := r6.cell (k := 8) (by omega)
            have hfj := r6.free 8
            rw [opTo, mapTo_at _ (by omega), hu] at hcj
            have hwu : IntKind.i64.wrap (u + 1) = u + 1 := wrapIn (by omega) (by omega)
            have r9 := r6.put 8 (u + 1)
            rw [← hu, opTo_set ls k 8 (by rw [HT.out, slotL, if_neg (by simp), if_pos rfl]), hu] at r9
            have HR9 := Lib.hid r9
            clear hu r9 r6
            go_upto_region 7 with fail
            rw [← hW6]
            clear hW6 c0 c1 c2 c3 c4 c5 c6
            go_wp2_with fail
            go_roundw
            case rel => exact ⟨k + 1, by omega, by go_num, HR9.out, B6.out.setCell (by omega) _⟩
            case measure => simp [intOf]; omega
          · have h4b : (kd == 4) = false := by simpa using h4k
            by_cases h5k : kd = 5
            · subst h5k
              obtain ⟨u, hu⟩ : ∃ u, cntOp ls 9 k = u := ⟨_, rfl⟩
              have hrg := cntOp_range ls 9 k
              rw [hu] at hrg
              have hcj := r6.cell (k := 9) (by omega)
              have hfj := r6.free 9
              rw [opTo, mapTo_at _ (by omega), hu] at hcj
              have hwu : IntKind.i64.wrap (u + 1) = u + 1 := wrapIn (by omega) (by omega)
              have r9 := r6.put 9 (u + 1)
              rw [← hu, opTo_set ls k 9 (by rw [HT.out, slotL, if_neg (by simp), if_neg (by simp), if_pos rfl]), hu] at r9
              have HR9 := Lib.hid r9
              clear hu r9 r6
              go_upto_region 7 with fail
              rw [← hW6]
              clear hW6 c0 c1 c2 c3 c4 c5 c6
              go_wp2_with fail
              go_roundw
              case rel => exact ⟨k + 1, by omega, by go_num, HR9.out, B6.out.setCell (by omega) _⟩
              case measure => simp [intOf]; omega
            · have h5b : (kd == 5) = false := by simpa using h5k
              have HE : Hid (opTo ls (k + 1) = opTo ls k) := opTo_same ls k (by rw [HT.out, slotL, if_neg h3, if_neg h4k, if_neg h5k])
              go_upto_region 7 with fail
              rw [← hW6]
              clear hW6 c0 c1 c2 c3 c4 c5 c6
              go_wp2_with fail
              go_roundw
              case rel => exact ⟨k + 1, by omega, by go_num, by rw [HE.out]; exact r6, B6⟩
              case measure => simp [intOf]; omega
      · obtain rfl : k = n := by omega
        have HF : Hid (opTo ls k = rs) := by show _ = _; rw [← HR.out, HL.out]
        have HR9 : Hid (Row wr w2.heap.size w2.heap.size 10 rs) := by rw [← HF.out]; exact hr
        clear hr
        go_wp2_with fail
        go_ret2
        exact ⟨_, 10, _, rfl, (HR9.out.mono s2).own, by omega, bk.out⟩

end Go.Proofs.YtcbofogmfelpkaaDoor
