/- What the model's test of equations does, its copy of a list, and rows of the call's own that lie in blocks of their own. For slices of at most 16777216 elements. -/
import Derived.Test.YtkmnhdnifpglnaaMat5
namespace Go.Proofs.Ytkmnhdnifpglnaa
open Go.RowKit Go.Shelf

set_option maxHeartbeats 1000000 in
theorem l1Own_any (ad : Addr) (n c : Nat) (zs : List Int) (w : World) (h : Has w (some ad) n zs) (hn : n ≤ 16777216) :
    Calls Try.prog 59 #[.slice (some ad) n c] w fun e w' => ∃ R c', e = .returned (.slice R n c') ∧ Own w' w.heap.size R n c' zs ∧ Below w.heap.size w w' := by
  have hB1 := belowNew w (.cells #[] 3)
  have own0 : (w.alloc (.cells #[] 3)).ownsRow w.heap.size 3 1 (.slice (some ⟨w.heap.size, 0, none⟩) 0 0) 0 (vals []) := World.ownsRow_lit w #[] 0 (Nat.le_refl _) (Nat.zero_le _) rfl
  have hT := h.below hB1
  go_enter Try.func59, Try.ntmps59
  go_wp2_with (at_builtin; refine appendMany _ rfl (.tmp 3) (.tmp 4) rfl w.heap.size _ (some ad) 0 n c [] zs rfl own0 rfl (fun e => by cases e) hT (by omega) (by omega) hB1.size ?_; intro v1 w1 own1 b1; rw [Nat.zero_add, List.nil_append] at own1)
  go_ret
  obtain ⟨R, c', rfl, ho⟩ := ownOf own1
  exact ⟨R, c', rfl, ho, hB1.trans b1⟩

set_option maxRecDepth 100000 in
set_option maxHeartbeats 1000000 in
theorem fpSystem_prime (p : Int) (A : Option Addr) (n c : Nat) (M : Nat → List Int) (Y : Option Addr) (q cq : Nat) (ys : List Int) (r : Bool) (w : World) (h : HasM w A n M) (hn : n ≤ 16777216) (hY : Has w Y q ys) (hq : q ≤ 16777216) (hr : sysM p n M ys = r) (h1 : primeB p = true) :
    Calls Try.prog 67 #[.int .i64 p, .slice A n c, .slice Y q cq] w fun e w' => e = .returned (.bool r) ∧ w = w' := by
  have HR := Lib.hid hr
  have HYL := Lib.hid hY.1
  have H1 := Lib.hid h1
  obtain ⟨p2, p251⟩ := primeB_yes h1
  clear h1
  clear hr
  go_enter Try.func67, Try.ntmps67
  go_wp2
  go_loop [11] (fun i => ∃ k : Nat, k ≤ n ∧ i = .int .i64 k ∧ Hid (∀ i, i < k → (M i).length = n ∧ allIn 0 (p - 1) (M i) = true)) (fun i => n - (intOf i).toNat)
  case atStart => exact ⟨0, Nat.zero_le _, rfl, fun i hi => absurd hi (by omega)⟩
  case round =>
    obtain ⟨k, hk, rfl, HK⟩ := hrel
    by_cases hlt : k < n
    · obtain ⟨ad, R, m, cR, rfl, hcR, hRow, hm1, hmc, hNil⟩ := h.elem hlt
      have HRL := Lib.hid hRow.1
      by_cases hmq : m = n
      · subst hmq
        cases hb : allIn 0 (p - 1) (M k) with
        | true =>
          have HB := Lib.hid hb
          clear hb
          go_wp2_with fail
          refine (l1All_any R m cR (M k) 0 (p - 1) true w hRow hm1 HB.out).mono ?_
          rintro e w' ⟨rfl, rfl⟩
          go_wp2
          go_round
          case rel =>
            refine ⟨k + 1, by omega, by go_num, fun i hi => ?_⟩
            by_cases e : i = k
            · rw [e]; exact ⟨HRL.out, HB.out⟩
            · exact HK.out i (by omega)
          case measure => simp [intOf]; omega
        | false =>
          have HB := Lib.hid hb
          clear hb
          go_wp2_with fail
          refine (l1All_any R m cR (M k) 0 (p - 1) false w hRow hm1 HB.out).mono ?_
          rintro e w' ⟨rfl, rfl⟩
          go_wp2
          go_ret
          have e := HR.out
          rw [show sysM p m M ys = false from decide_eq_false fun h => by have := (h.2.2.2.1 k hlt).2; rw [elsIn, HB.out, Bool.and_false] at this; cases this] at e
          subst e
          exact ⟨rfl, rfl⟩
      · have hne : ((m : Int) != (n : Int)) = true := by simp; omega
        go_wp2
        go_ret
        have e := HR.out
        rw [show sysM p n M ys = false from decide_eq_false fun h => hmq (HRL.out.symm.trans (h.2.2.2.1 k hlt).1)] at e
        subst e
        exact ⟨rfl, rfl⟩
    · obtain rfl : n = k := by omega
      by_cases h2 : 1 ≤ n ∧ n ≤ 6
      · by_cases h3 : q = n
        · subst h3
          have HD : Hid (allIn 0 (p - 1) ys = r) := by
            show _ = _
            rw [← HR.out, sysM, Bool.eq_iff_iff, decide_eq_true_eq]
            constructor
            · intro h4
              exact ⟨h2.1, h2.2, HYL.out, fun i hi => ⟨(HK.out i hi).1, by rw [elsIn, H1.out, (HK.out i hi).2]; rfl⟩, by rw [elsIn, H1.out, h4]; rfl⟩
            · intro h4
              have := h4.2.2.2.2
              rw [elsIn, H1.out, Bool.true_and] at this
              exact this
          obtain ⟨n1, n6⟩ := h2
          clear HR
          go_wp2_with fail
          refine (fpGood_any p true w ⟨by omega, by omega⟩ H1.out).mono ?_
          rintro e w' ⟨rfl, rfl⟩
          go_wp2_with fail
          refine (l1In_any (q : Int) 1 6 true w (by simp; omega)).mono ?_
          rintro e w' ⟨rfl, rfl⟩
          go_wp2_with fail
          refine (l1All_any Y q cq ys 0 (p - 1) r w hY hq HD.out).mono ?_
          rintro e w' ⟨rfl, rfl⟩
          go_wp2_with fail
          go_ret
          exact ⟨rfl, rfl⟩
        · have hne : ((q : Int) == (n : Int)) = false := by simp; omega
          have e := HR.out
          rw [show sysM p n M ys = false from decide_eq_false fun h => h3 (HYL.out.symm.trans h.2.2.1)] at e
          subst e
          obtain ⟨n1, n6⟩ := h2
          go_wp2_with fail
          refine (fpGood_any p true w ⟨by omega, by omega⟩ H1.out).mono ?_
          rintro e w' ⟨rfl, rfl⟩
          go_wp2_with fail
          refine (l1In_any (n : Int) 1 6 true w (by simp; omega)).mono ?_
          rintro e w' ⟨rfl, rfl⟩
          go_wp2_with fail
          go_ret
          exact ⟨rfl, rfl⟩
      · have e := HR.out
        rw [show sysM p n M ys = false from decide_eq_false fun h => h2 ⟨h.1, h.2.1⟩] at e
        subst e
        have H2 : Hid ((decide (1 ≤ (n : Int)) && decide ((n : Int) ≤ 6)) = false) := by show _ = _; simp; omega
        clear h2
        go_wp2_with fail
        refine (fpGood_any p true w ⟨by omega, by omega⟩ H1.out).mono ?_
        rintro e w' ⟨rfl, rfl⟩
        go_wp2_with fail
        refine (l1In_any (n : Int) 1 6 false w H2.out).mono ?_
        rintro e w' ⟨rfl, rfl⟩
        go_wp2_with fail
        go_ret
        exact ⟨rfl, rfl⟩

set_option maxRecDepth 100000 in
set_option maxHeartbeats 1000000 in
theorem fpSystem_any (p : Int) (A : Option Addr) (n c : Nat) (M : Nat → List Int) (Y : Option Addr) (q cq : Nat) (ys : List Int) (r : Bool) (w : World) (hp : I64 p) (h : HasM w A n M) (hn : n ≤ 16777216) (hY : Has w Y q ys) (hq : q ≤ 16777216) (hr : sysM p n M ys = r) :
    Calls Try.prog 67 #[.int .i64 p, .slice A n c, .slice Y q cq] w fun e w' => e = .returned (.bool r) ∧ w = w' := by
  cases h1 : primeB p with
  | true => exact fpSystem_prime p A n c M Y q cq ys r w h hn hY hq hr h1
  | false =>
    have hno : r = false := by
      rw [← hr]
      exact decide_eq_false fun h => by have := h.2.2.2.2; rw [elsIn, h1, Bool.false_and] at this; cases this
    subst hno
    have H1 := Lib.hid h1
    obtain ⟨u, hu⟩ : ∃ u, IntKind.i64.wrap (p - 1) = u := ⟨_, rfl⟩
    clear hr h1
    go_enter Try.func67, Try.ntmps67
    go_wp2
    go_loop [11] (fun i => ∃ k : Nat, k ≤ n ∧ i = .int .i64 k) (fun i => n - (intOf i).toNat)
    case atStart => exact ⟨0, Nat.zero_le _, rfl⟩
    case round =>
      obtain ⟨k, hk, rfl⟩ := hrel
      by_cases hlt : k < n
      · obtain ⟨ad, R, m, cR, rfl, hcR, hRow, hm1, hmc, hNil⟩ := h.elem hlt
        by_cases hmq : m = n
        · subst hmq
          cases hb : allIn 0 u (M k) with
          | true =>
            have HB := Lib.hid hb
            clear hb
            go_wp2_with fail
            refine (l1All_any R m cR (M k) 0 u true w hRow hm1 HB.out).mono ?_
            rintro e w' ⟨rfl, rfl⟩
            go_wp2
            go_round
            case rel => exact ⟨k + 1, by omega, by go_num⟩
            case measure => simp [intOf]; omega
          | false =>
            have HB := Lib.hid hb
            clear hb
            go_wp2_with fail
            refine (l1All_any R m cR (M k) 0 u false w hRow hm1 HB.out).mono ?_
            rintro e w' ⟨rfl, rfl⟩
            go_wp2
            go_ret
            exact ⟨rfl, rfl⟩
        · have hne : ((m : Int) != (n : Int)) = true := by simp; omega
          go_wp2
          go_ret
          exact ⟨rfl, rfl⟩
      · obtain rfl : n = k := by omega
        go_wp2_with fail
        refine (fpGood_any p false w hp H1.out).mono ?_
        rintro e w' ⟨rfl, rfl⟩
        go_wp2_with fail
        go_ret
        exact ⟨rfl, rfl⟩

end Go.Proofs.Ytkmnhdnifpglnaa
