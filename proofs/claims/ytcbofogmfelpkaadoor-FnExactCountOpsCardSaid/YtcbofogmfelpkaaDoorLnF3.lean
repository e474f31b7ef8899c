/- How many lines have each operation (CountOps): the model's function. For lists of at most 1048576 lines. -/
import Derived.Test.YtcbofogmfelpkaaDoorLnF2
namespace Go.Proofs.YtcbofogmfelpkaaDoor
open Go Go.RowKit
set_option maxRecDepth 100000

/-- Where a line is counted: 0 to 7 its operation, 8 'not', 9 'pick', 10 nowhere. -/
def slotL (x : Ln) : Nat := if x.kind = 3 then opIx x.op else if x.kind = 4 then 8 else if x.kind = 5 then 9 else 10
def cntOp (ls : List Ln) (j : Nat) : Nat → Int
  | 0 => 0
  | k + 1 => cntOp ls j k + if slotL (lnAt ls k) = j then 1 else 0
def opTo (ls : List Ln) (k : Nat) : List Int := mapTo (fun j => cntOp ls j k) 10
def m_CountOps (ls : List Ln) : List Int × Bool := if goodP ls = true then (opTo ls ls.length, true) else ([], false)
theorem cntOp_range (ls : List Ln) (j : Nat) : ∀ k, 0 ≤ cntOp ls j k ∧ cntOp ls j k ≤ (k : Int)
  | 0 => ⟨Int.le_refl _, Int.le_refl _⟩
  | k + 1 => by
    have := cntOp_range ls j k
    rw [cntOp]
    split <;> push_cast <;> omega
theorem opTo_set (ls : List Ln) (k j : Nat) (hj : slotL (lnAt ls k) = j) : (opTo ls k).set j (cntOp ls j k + 1) = opTo ls (k + 1) := by
  unfold opTo
  rw [mapTo_set]
  congr 1
  funext i
  rw [cntOp, hj]
  by_cases e : i = j
  · subst e; rw [if_pos rfl, if_pos rfl]
  · rw [if_neg e, if_neg (by omega), Int.add_zero]
theorem opTo_same (ls : List Ln) (k : Nat) (hj : slotL (lnAt ls k) = 10) : opTo ls (k + 1) = opTo ls k := by
  unfold opTo mapTo
  apply List.map_congr_left
  intro i hi
  rw [List.mem_range] at hi
  rw [cntOp, hj, if_neg (by omega), Int.add_zero]
def opsArr : Array Value := #[.string ⟨#[43]⟩, .string ⟨#[45]⟩, .string ⟨#[42]⟩, .string ⟨#[60]⟩, .string ⟨#[61]⟩, .string ⟨#[38]⟩, .string ⟨#[124]⟩, .string ⟨#[94]⟩]
theorem opsArr_at {w : World} {g q : Nat} (h : Blk w g opsArr 9) (hq : q < 8) : w.cell? ⟨g, q, none⟩ = some (.string (opB q)) := by
  rcases (by omega : q = 0 ∨ q = 1 ∨ q = 2 ∨ q = 3 ∨ q = 4 ∨ q = 5 ∨ q = 6 ∨ q = 7) with rfl | rfl | rfl | rfl | rfl | rfl | rfl | rfl <;> exact h.cell rfl

set_option maxHeartbeats 1000000 in
theorem laOpsB_any (w : World) : Calls Tryd.prog 71 #[] w fun e w' => e = .returned (.slice (some ⟨w.heap.size, 0, none⟩) 8 8) ∧ Blk w' w.heap.size opsArr 9 ∧ Below w.heap.size w w' := by
  have HY : Hid (Blk (w.alloc (.cells #[.string ⟨#[43]⟩, .string ⟨#[45]⟩, .string ⟨#[42]⟩, .string ⟨#[60]⟩, .string ⟨#[61]⟩, .string ⟨#[38]⟩, .string ⟨#[124]⟩, .string ⟨#[94]⟩] 9)) w.heap.size opsArr 9) := Blk.new w opsArr 9
  have HB := Lib.hid (belowNew w (.cells #[.string ⟨#[43]⟩, .string ⟨#[45]⟩, .string ⟨#[42]⟩, .string ⟨#[60]⟩, .string ⟨#[61]⟩, .string ⟨#[38]⟩, .string ⟨#[124]⟩, .string ⟨#[94]⟩] 9))
  go_enter Tryd.func71, Tryd.ntmps71
  go_wp2_with fail
  go_ret
  exact ⟨rfl, HY.out, HB.out⟩

set_option maxRecDepth 100000 in
set_option maxHeartbeats 4000000 in
theorem spec_CountOps (A : Option Addr) (n c : Nat) (ls : List Ln) (rs : List Int) (rb : Bool) (w : World) (h : HasL w A n ls) (hn : n ≤ 1048576) (hnc : n ≤ c) (hz : ∀ j, j < n → FitL (lnAt ls j)) (hm : m_CountOps ls = (rs, rb)) :
    Calls Tryd.prog 40 #[.slice A n c] w fun e w' => ∃ R m c', e = .returned (.tuple #[.slice R m c', .bool rb]) ∧ Has w' R m rs ∧ m ≤ 16777216 ∧ Below w.heap.size w w' := by
  have HG := Lib.hid (laGood_any A n c ls w h hn hnc hz)
  have HH := Lib.hid h
  have HL : Hid (ls.length = n) := h.1
  have HM := Lib.hid hm
  clear h hz hm
  obtain ⟨b, hb⟩ : ∃ b, goodP ls = b := ⟨_, rfl⟩
  rw [hb] at HG
  have HGo := Lib.hid hb
  clear hb
  cases b with
  | false =>
    have e := HM.out
    rw [m_CountOps, if_neg (by rw [HGo.out]; simp)] at e
    obtain ⟨rfl, rfl⟩ := Prod.mk.inj e
    clear e
    go_enter Tryd.func40, Tryd.ntmps40
    go_wp2_with fail
    refine (HG.out).mono ?_
    rintro e w2 ⟨rfl, b2⟩
    have HB2 := Lib.hid b2
    clear b2
    go_wp2_with fail
    go_ret2
    exact ⟨none, 0, 0, rfl, Has.nil_, by omega, HB2.out⟩
  | true =>
    have e := HM.out
    rw [m_CountOps, if_pos HGo.out] at e
    obtain ⟨e1, rfl⟩ := Prod.mk.inj e
    have HR := Lib.hid e1
    clear e e1
    have HQ := Lib.hid (good_parts HGo.out)
    go_enter Tryd.func40, Tryd.ntmps40
    go_wp2_with fail
    refine (HG.out).mono ?_
    rintro e w2 ⟨rfl, b2⟩
    have HB2 := Lib.hid b2
    have s2 := b2.size
    clear b2
    go_wp2_with (at_make; refine makeRow _ rfl _ rfl 10 rfl (by omega) ?_; intro w3 hrow hb3)
    have hr0 : Row w3 w2.heap.size w2.heap.size 10 (opTo ls 0) := hrow
    have HB3 := Lib.hid (HB2.out.trans (hb3.mono HB2.out.size))
    have HB23 := Lib.hid hb3
    clear hrow hb3
    go_loopw [15] (fun iv wr => ∃ k : Nat, k ≤ n ∧ iv = .int .i64 k ∧ Row wr w2.heap.size w2.heap.size 10 (opTo ls k) ∧ Hid (Below w.heap.size w wr)) (fun iv _ => n - (intOf iv).toNat)
    case atStart => exact ⟨0, Nat.zero_le _, rfl, hr0, HB3⟩
    case round =>
      clear hr0
      obtain ⟨k, hk, rfl, hr, bk⟩ := hrel
      obtain ⟨w5, rfl⟩ : ∃ x, x = wr := ⟨_, rfl⟩
      by_cases hlt : k < n
      · obtain ⟨ad, kd, nm, o, ps, py, wd, vl, P, q, d, rfl, hc, hp, _, _, HT⟩ := (HH.out.below bk.out).line hlt
        obtain ⟨c0, c1, c2, c3, c4, c5, c6⟩ := hc.cells
        have hok := line_good HQ.out.2.1 (k := k) (by rw [HL.out]; exact hlt)
        rw [HT.out] at hok
        have HOk := Lib.hid hok
        have q0 : (0 : Int) ≤ (k : Int) := by omega
        have q1 : (k : Int) < (n : Int) := by omega
        have k30 : k ≤ 30 := by have := HQ.out.1; have := HL.out; omega
        have sw := hr.lt
        have b6 := belowNew w5 (.cells #[.int .i64 kd, .string nm, .string o, .slice P q d, .int .i64 py, .int .i64 wd, .int .i64 vl] 53)
        have y6 := Blk.new w5 #[.int .i64 kd, .string nm, .string o, .slice P q d, .int .i64 py, .int .i64 wd, .int .i64 vl] 53
        have r6 := hr.below b6
        obtain ⟨W6, hW6⟩ : ∃ W, W = w5.alloc (.cells #[.int .i64 kd, .string nm, .string o, .slice P q d, .int .i64 py, .int .i64 wd, .int .i64 vl] 53) := ⟨_, rfl⟩
        rw [← hW6] at b6 y6 r6
        have B6 := Lib.hid (bk.out.trans (b6.mono bk.out.size))
        have s6 : w5.heap.size < W6.heap.size := y6.lt
        clear hc hp hok hr b6 bk
        go_upto_region 7 with fail
        rw [← hW6]
        clear hW6 c0 c1 c2 c3 c4 c5 c6
        go_wp2_with fail
        refine (laOpsB_any W6).mono ?_
        rintro e w7 ⟨rfl, z7, b7⟩
        have B7 := Lib.hid (B6.out.trans (b7.mono B6.out.size))
        have y7 := y6.below' b7
        have r7 := r6.below b7
        clear b7 y6 r6
        by_cases h3 : kd = 3
        · subst h3
          obtain ⟨i, hi⟩ : ∃ i, opIx o = i := ⟨_, rfl⟩
          have hi8 : i < 8 := by have := lineOk_op HOk.out rfl; simp only at this; omega
          have HI := Lib.hid hi
          have HS : Hid (slotL (lnAt ls k) = i) := by show _ = _; rw [HT.out, slotL, if_pos rfl]; exact hi
          have HZ0 : Hid (opTo ls k = if i < 0 then opTo ls (k + 1) else opTo ls k) := by show _ = _; rw [if_neg (by omega)]
          clear hi
          go_wp2_with fail
          go_loopw [21] (fun jv wq => ∃ (j : Nat) (zs : List Int), j ≤ 8 ∧ jv = .int .i64 j ∧ Hid (zs = if i < j then opTo ls (k + 1) else opTo ls k) ∧ Row wq w2.heap.size w2.heap.size 10 zs ∧ Blk wq w5.heap.size #[.int .i64 3, .string nm, .string o, .slice P q d, .int .i64 py, .int .i64 wd, .int .i64 vl] 53 ∧ Blk wq W6.heap.size opsArr 9 ∧ Hid (Below w.heap.size w wq)) (fun jv _ => 8 - (intOf jv).toNat)
          case atStart => exact ⟨0, _, Nat.zero_le _, rfl, HZ0, r7, y7, z7, B7⟩
          case round =>
            clear HZ0 r7 y7 z7
            obtain ⟨j, zs, hj, rfl, hzs, r8, y8, z8, b8⟩ := hrel
            obtain ⟨w8, rfl⟩ : ∃ x, x = wr := ⟨_, rfl⟩
            obtain ⟨⟨d0, d1, d2, d3, d4, d5, d6⟩, _⟩ := y8.seven
            by_cases hl8 : j < 8
            · have j0 : (0 : Int) ≤ (j : Int) := by omega
              have j1 : (j : Int) < 8 := by omega
              have ho := opsArr_at z8 hl8
              obtain ⟨t, ht⟩ : ∃ t, opB j = t := ⟨_, rfl⟩
              rw [ht] at ho
              by_cases e : j = i
              · have e2 : t = o := by rw [← ht, e]; exact (opIx_eq hi8).1 HI.out
                subst e2
                have HE := Lib.hid e
                obtain ⟨u, hu⟩ : ∃ u, cntOp ls j k = u := ⟨_, rfl⟩
                have hrg := cntOp_range ls j k
                rw [hu] at hrg
                have hcj := r8.cell (k := j) (by omega)
                have hfj := r8.free j
                have e3 : zs = opTo ls k := by rw [hzs.out, if_neg (by omega)]
                have e4 : zs.getD j 0 = u := by rw [e3, opTo, mapTo_at _ (by omega)]; exact hu
                rw [e4] at hcj
                have hwu : IntKind.i64.wrap (u + 1) = u + 1 := wrapIn (by omega) (by omega)
                have r9 := r8.put j (u + 1)
                have e5 : zs.set j (u + 1) = opTo ls (k + 1) := by rw [e3, ← hu]; exact opTo_set ls k j (by rw [HS.out, e])
                rw [e5] at r9
                have HR9 := Lib.hid r9
                have HY9 := Lib.hid (y8.other (b := w2.heap.size) (by omega) j (.int .i64 (u + 1)))
                have HZ9 := Lib.hid (z8.other (b := w2.heap.size) (by omega) j (.int .i64 (u + 1)))
                clear e ht hu e3 e4 e5 r9 y8 z8 r8 hzs
                go_wp2_with fail
                go_roundw
                case rel => exact ⟨j + 1, _, by omega, by go_num, by show _ = _; rw [if_pos (by have := HE.out; omega)], HR9.out, HY9.out, HZ9.out, b8.out.setCell (by omega) _⟩
                case measure => simp [intOf]; omega
              · have h5 : (o.toList == t.toList) = false := same_no (a := o) (b := t) (fun e2 => e (by
                  have h6 := (opIx_eq (s := o) hl8).2 (by rw [ht]; exact e2.symm)
                  rw [HI.out] at h6
                  exact h6.symm))
                have HZ2 : Hid (zs = if i < j + 1 then opTo ls (k + 1) else opTo ls k) := by
                  show _ = _
                  rw [hzs.out]
                  by_cases h6 : i < j
                  · rw [if_pos h6, if_pos (by omega)]
                  · rw [if_neg h6, if_neg (by omega)]
                clear e ht hzs
                go_wp2_with fail
                go_roundw
                case rel => exact ⟨j + 1, zs, by omega, by go_num, HZ2, r8, y8, z8, b8⟩
                case measure => simp [intOf]; omega
            · have e3 : zs = opTo ls (k + 1) := by rw [hzs.out, if_pos (by omega)]
              subst e3
              obtain rfl : j = 8 := by omega
              clear hzs
              go_wp2_with fail
              go_roundw
              case rel => exact ⟨k + 1, by omega, by go_num, r8, b8⟩
              case measure => simp [intOf]; omega
        · have h4 : (kd == 3) = false := by simpa using h3
          go_wp2_with fail
          go_loopw [21] (fun jv wq => ∃ (j : Nat), j ≤ 8 ∧ jv = .int .i64 j ∧ Row wq w2.heap.size w2.heap.size 10 (opTo ls k) ∧ Blk wq w5.heap.size #[.int .i64 kd, .string nm, .string o, .slice P q d, .int .i64 py, .int .i64 wd, .int .i64 vl] 53 ∧ Blk wq W6.heap.size opsArr 9 ∧ Hid (Below w.heap.size w wq)) (fun jv _ => 8 - (intOf jv).toNat)
          case atStart => exact ⟨0, Nat.zero_le _, rfl, r7, y7, z7, B7⟩
          case round =>
            clear r7 y7 z7
            obtain ⟨j, hj, rfl, r8, y8, z8, b8⟩ := hrel
            obtain ⟨w8, rfl⟩ : ∃ x, x = wr := ⟨_, rfl⟩
            obtain ⟨⟨d0, d1, d2, d3, d4, d5, d6⟩, _⟩ := y8.seven
            by_cases hl8 : j < 8
            · have j0 : (0 : Int) ≤ (j : Int) := by omega
              have j1 : (j : Int) < 8 := by omega
              have ho := opsArr_at z8 hl8
              obtain ⟨t, ht⟩ : ∃ t, opB j = t := ⟨_, rfl⟩
              rw [ht] at ho
              clear ht
              go_wp2_with fail
              go_roundw
              case rel => exact ⟨j + 1, by omega, by go_num, r8, y8, z8, b8⟩
              case measure => simp [intOf]; omega
            · obtain rfl : j = 8 := by omega
              by_cases h4k : kd = 4
              · subst h4k
                obtain ⟨u, hu⟩ : ∃ u, cntOp ls 8 k = u := ⟨_, rfl⟩
                have hrg := cntOp_range ls 8 k
                rw [hu] at hrg
                have hcj := r8.cell (k := 8) (by omega)
                have hfj := r8.free 8
                rw [opTo, mapTo_at _ (by omega), hu] at hcj
                have hwu : IntKind.i64.wrap (u + 1) = u + 1 := wrapIn (by omega) (by omega)
                have r9 := r8.put 8 (u + 1)
                rw [← hu, opTo_set ls k 8 (by rw [HT.out, slotL, if_neg (by simp), if_pos rfl]), hu] at r9
                have HR9 := Lib.hid r9
                clear hu r9 r8
                go_wp2_with fail
                go_roundw
                case rel => exact ⟨k + 1, by omega, by go_num, HR9.out, b8.out.setCell (by omega) _⟩
                case measure => simp [intOf]; omega
              · have h4b : (kd == 4) = false := by simpa using h4k
                by_cases h5k : kd = 5
                · subst h5k
                  obtain ⟨u, hu⟩ : ∃ u, cntOp ls 9 k = u := ⟨_, rfl⟩
                  have hrg := cntOp_range ls 9 k
                  rw [hu] at hrg
                  have hcj := r8.cell (k := 9) (by omega)
                  have hfj := r8.free 9
                  rw [opTo, mapTo_at _ (by omega), hu] at hcj
                  have hwu : IntKind.i64.wrap (u + 1) = u + 1 := wrapIn (by omega) (by omega)
                  have r9 := r8.put 9 (u + 1)
                  rw [← hu, opTo_set ls k 9 (by rw [HT.out, slotL, if_neg (by simp), if_neg (by simp), if_pos rfl]), hu] at r9
                  have HR9 := Lib.hid r9
                  clear hu r9 r8
                  go_wp2_with fail
                  go_roundw
                  case rel => exact ⟨k + 1, by omega, by go_num, HR9.out, b8.out.setCell (by omega) _⟩
                  case measure => simp [intOf]; omega
                · have h5b : (kd == 5) = false := by simpa using h5k
                  have HE : Hid (opTo ls (k + 1) = opTo ls k) := opTo_same ls k (by rw [HT.out, slotL, if_neg h3, if_neg h4k, if_neg h5k])
                  go_wp2_with fail
                  go_roundw
                  case rel => exact ⟨k + 1, by omega, by go_num, by rw [HE.out]; exact r8, b8⟩
                  case measure => simp [intOf]; omega
      · obtain rfl : k = n := by omega
        have HF : Hid (opTo ls k = rs) := by show _ = _; rw [← HR.out, HL.out]
        go_wp2_with fail
        go_ret2
        exact ⟨_, 10, _, rfl, by rw [← HF.out]; exact hr.has, by omega, bk.out⟩

end Go.Proofs.YtcbofogmfelpkaaDoor
