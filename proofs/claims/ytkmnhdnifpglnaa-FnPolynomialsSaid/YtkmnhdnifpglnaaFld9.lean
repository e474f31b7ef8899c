/- What the model's test of points does: the same as the program's. For slices of at most 16777216 elements. -/
import Derived.Test.YtkmnhdnifpglnaaFld8
namespace Go.Proofs.Ytkmnhdnifpglnaa
open Go.RowKit

/-- The ordered list of the first k points. -/
structure Met (xs rs : List Int) (m k : Nat) : Prop where
  order : rs.Pairwise (· < ·)
  mem : ∀ y, y ∈ rs ↔ ∃ i, i < k ∧ xs.getD i 0 = y
  all : m = k ↔ DiffTo xs k
theorem Met.start (xs : List Int) : Met xs [] 0 0 := ⟨List.Pairwise.nil, fun y => by simp, by simp [DiffTo]⟩
theorem Met.step {xs rs ts : List Int} {m k : Nat} (h : Met xs rs m k) (hle : m ≤ k) (ho : ts.Pairwise (· < ·)) (hm : ∀ y, y ∈ ts ↔ y = xs.getD k 0 ∨ y ∈ rs) : Met xs ts (putLen rs (xs.getD k 0) m) (k + 1) ∧ putLen rs (xs.getD k 0) m ≤ k + 1 := by
  refine ⟨⟨ho, fun y => ?_, ?_⟩, by unfold putLen; split <;> omega⟩
  · rw [hm, h.mem]
    constructor
    · rintro (rfl | ⟨i, hi, rfl⟩)
      · exact ⟨k, by omega, rfl⟩
      · exact ⟨i, by omega, rfl⟩
    · rintro ⟨i, hi, rfl⟩
      by_cases e : i = k
      · exact .inl (by rw [e])
      · exact .inr ⟨i, by omega, rfl⟩
  · unfold putLen
    split
    · rename_i hin
      obtain ⟨i, hi, he⟩ := (h.mem _).1 hin
      exact ⟨fun e => by omega, fun hd => absurd he (hd k (by omega) i hi)⟩
    · rename_i hout
      have hne : ∀ j, j < k → xs.getD j 0 ≠ xs.getD k 0 := fun j hj e => hout ((h.mem _).2 ⟨j, hj, e⟩)
      constructor
      · intro e
        exact diffTo_succ (h.all.1 (by omega)) hne
      · intro hd
        have := h.all.2 (fun i hi j hj => hd i (by omega) j hj)
        omega

set_option maxRecDepth 100000 in
set_option maxHeartbeats 2000000 in
theorem fpPoints_any (p : Int) (A B : Option Addr) (n m c d : Nat) (xs ys : List Int) (r : Bool) (w : World) (hp : I64 p) (hx : Has w A n xs) (hy : Has w B m ys) (hn : n ≤ 16777216) (hm : m ≤ 16777216) (hr : ptsOk p xs ys = r) :
    Calls Try.prog 52 #[.int .i64 p, .slice A n c, .slice B m d] w fun e w' => e = .returned (.bool r) ∧ Below w.heap.size w w' := by
  have LX := Lib.hid hx.1
  have LY := Lib.hid hy.1
  unfold ptsOk at hr
  rw [LX.out, LY.out] at hr
  have HR := Lib.hid hr
  clear hr
  go_enter Try.func52, Try.ntmps52
  go_wp2
  go_loopw [7, 12] (fun u i wr => ∃ (k : Nat) (R : Option Addr) (q cq : Nat), k ≤ n ∧ i = .int .i64 k ∧ u = .slice R q cq ∧ q ≤ k ∧ q ≤ cq ∧ NilOk R q cq ∧ Below w.heap.size w wr ∧ ∃ rs : List Int, Has wr R q rs ∧ Hid (Met xs rs q k)) (fun _ i _ => n - (intOf i).toNat)
  case atStart => exact ⟨0, none, 0, 0, Nat.zero_le _, rfl, rfl, Nat.le_refl _, Nat.le_refl _, fun _ => ⟨rfl, rfl⟩, Below.refl _ _, [], Has.nil_, Met.start xs⟩
  case round =>
    obtain ⟨k, R, q, cq, hk, rfl, rfl, hqk, hqc, hnil, hbk, rs, hrs, HM⟩ := hrel
    by_cases hlt : k < n
    · obtain ⟨ad, z, rfl, hc, HZ⟩ := (hx.below hbk).elem hlt
      go_wp2_with fail
      refine (l1Put_any R q cq rs z _ hrs (by omega) hqc hnil HM.out.order).mono ?_
      rintro e w2 ⟨R2, q2, cq2, rfl, hqc2, hnil2, hb2, ts, hts, ho, hmem, hq2⟩
      have hst := HM.out.step (ts := ts) hqk ho (by rw [← HZ.out]; exact hmem)
      rw [← HZ.out, ← hq2] at hst
      have HS := Lib.hid hst.1
      have hle2 := hst.2
      have hb3 := hbk.trans (hb2.mono hbk.size)
      clear hst ho hmem hq2
      go_wp2
      go_roundw
      case rel => exact ⟨k + 1, R2, q2, cq2, by omega, by go_num, rfl, hle2, hqc2, hnil2, hb3, ts, hts, HS⟩
      case measure => simp [intOf]; omega
    · obtain rfl : n = k := by omega
      have HA := Lib.hid HM.out.all
      clear HM
      cases h1 : primeB p with
      | false =>
        have H1 := Lib.hid h1
        have e := HR.out
        rw [h1, Bool.false_and] at e
        subst e
        clear h1
        go_wp2_with fail
        refine (fpGood_any p false _ hp H1.out).mono ?_
        rintro e w' ⟨rfl, rfl⟩
        go_wp2_with fail
        go_ret
        exact ⟨rfl, hbk⟩
      | true =>
        have H1 := Lib.hid h1
        obtain ⟨p2, p251⟩ := primeB_yes h1
        cases h2 : allIn 0 (p - 1) xs with
        | false =>
          have H2 := Lib.hid h2
          have e := HR.out
          rw [h1, h2, Bool.false_and, Bool.and_false] at e
          subst e
          clear h1 h2
          go_wp2_with fail
          refine (fpGood_any p true _ hp H1.out).mono ?_
          rintro e w' ⟨rfl, rfl⟩
          go_wp2_with fail
          refine (l1All_any A n c xs 0 (p - 1) false _ (hx.below hbk) hn H2.out).mono ?_
          rintro e w' ⟨rfl, rfl⟩
          go_wp2_with fail
          go_ret
          exact ⟨rfl, hbk⟩
        | true =>
          have H2 := Lib.hid h2
          cases h3 : allIn 0 (p - 1) ys with
          | false =>
            have H3 := Lib.hid h3
            have e := HR.out
            rw [h1, h2, h3, Bool.false_and, Bool.and_false, Bool.and_false] at e
            subst e
            clear h1 h2 h3
            go_wp2_with fail
            refine (fpGood_any p true _ hp H1.out).mono ?_
            rintro e w' ⟨rfl, rfl⟩
            go_wp2_with fail
            refine (l1All_any A n c xs 0 (p - 1) true _ (hx.below hbk) hn H2.out).mono ?_
            rintro e w' ⟨rfl, rfl⟩
            go_wp2_with fail
            refine (l1All_any B m d ys 0 (p - 1) false _ (hy.below hbk) hm H3.out).mono ?_
            rintro e w' ⟨rfl, rfl⟩
            go_wp2_with fail
            go_ret
            exact ⟨rfl, hbk⟩
          | true =>
            have H3 := Lib.hid h3
            have e := HR.out
            rw [h1, h2, h3, Bool.true_and, Bool.true_and, Bool.true_and] at e
            have HE := Lib.hid e
            clear h1 h2 h3 e HR
            by_cases h4 : n = m
            · subst h4
              by_cases h5 : q = n
              · subst h5
                have HD := Lib.hid (HA.out.1 rfl)
                have hlast : decide (q ≤ 12) = r := by
                  rw [← HE.out]
                  exact decide_eq_decide.2 ⟨fun h => ⟨rfl, HD.out, h⟩, fun h => h.2.2⟩
                clear HA HE
                by_cases h6 : q ≤ 12
                · rw [decide_eq_true h6] at hlast
                  subst hlast
                  go_wp2_with fail
                  refine (fpGood_any p true _ hp H1.out).mono ?_
                  rintro e w' ⟨rfl, rfl⟩
                  go_wp2_with fail
                  refine (l1All_any A q c xs 0 (p - 1) true _ (hx.below hbk) hn H2.out).mono ?_
                  rintro e w' ⟨rfl, rfl⟩
                  go_wp2_with fail
                  refine (l1All_any B q d ys 0 (p - 1) true _ (hy.below hbk) hm H3.out).mono ?_
                  rintro e w' ⟨rfl, rfl⟩
                  go_wp2_with fail
                  go_ret
                  refine ⟨?_, hbk⟩
                  show Ending.returned (.bool (decide ((q : Int) ≤ 12))) = _
                  rw [decide_eq_true (by omega)]
                · rw [decide_eq_false h6] at hlast
                  subst hlast
                  go_wp2_with fail
                  refine (fpGood_any p true _ hp H1.out).mono ?_
                  rintro e w' ⟨rfl, rfl⟩
                  go_wp2_with fail
                  refine (l1All_any A q c xs 0 (p - 1) true _ (hx.below hbk) hn H2.out).mono ?_
                  rintro e w' ⟨rfl, rfl⟩
                  go_wp2_with fail
                  refine (l1All_any B q d ys 0 (p - 1) true _ (hy.below hbk) hm H3.out).mono ?_
                  rintro e w' ⟨rfl, rfl⟩
                  go_wp2_with fail
                  go_ret
                  refine ⟨?_, hbk⟩
                  show Ending.returned (.bool (decide ((q : Int) ≤ 12))) = _
                  rw [decide_eq_false (by omega)]
              · have hno : r = false := by
                  rw [← HE.out]
                  exact decide_eq_false fun h => h5 (HA.out.2 h.2.1)
                subst hno
                have hne : ((q : Int) == (n : Int)) = false := by simp; omega
                clear HA HE
                go_wp2_with fail
                refine (fpGood_any p true _ hp H1.out).mono ?_
                rintro e w' ⟨rfl, rfl⟩
                go_wp2_with fail
                refine (l1All_any A n c xs 0 (p - 1) true _ (hx.below hbk) hn H2.out).mono ?_
                rintro e w' ⟨rfl, rfl⟩
                go_wp2_with fail
                refine (l1All_any B n d ys 0 (p - 1) true _ (hy.below hbk) hm H3.out).mono ?_
                rintro e w' ⟨rfl, rfl⟩
                go_wp2_with fail
                go_ret
                exact ⟨rfl, hbk⟩
            · have hno : r = false := by
                rw [← HE.out]
                exact decide_eq_false fun h => h4 h.1
              subst hno
              have hne : ((n : Int) == (m : Int)) = false := by simp; omega
              clear HA HE
              go_wp2_with fail
              refine (fpGood_any p true _ hp H1.out).mono ?_
              rintro e w' ⟨rfl, rfl⟩
              go_wp2_with fail
              refine (l1All_any A n c xs 0 (p - 1) true _ (hx.below hbk) hn H2.out).mono ?_
              rintro e w' ⟨rfl, rfl⟩
              go_wp2_with fail
              refine (l1All_any B m d ys 0 (p - 1) true _ (hy.below hbk) hm H3.out).mono ?_
              rintro e w' ⟨rfl, rfl⟩
              go_wp2_with fail
              go_ret
              exact ⟨rfl, hbk⟩

end Go.Proofs.Ytkmnhdnifpglnaa
