/- What the program's SolveLinear does: Gauss's elimination, column by column. For slices of at most 16777216 elements. -/
import Derived.Test.YtkmnhdnifpglnaaMat4
namespace Go.Proofs.Ytkmnhdnifpglnaa
open Go.RowKit Go.Shelf

/-- As many equations as unknowns, 1 to 6 of each, over a small field. -/
def sysM (p : Int) (n : Nat) (M : Nat → List Int) (ys : List Int) : Bool := decide (1 ≤ n ∧ n ≤ 6 ∧ ys.length = n ∧ (∀ i, i < n → (M i).length = n ∧ elsIn p (M i) = true) ∧ elsIn p ys = true)
/-- The equations when k columns are eliminated; none if there is no one solution. -/
def gaussM (p : Int) (n : Nat) (M : Nat → List Int) : Nat → Option (Nat → List Int)
  | 0 => some M
  | k + 1 => match gaussM p n M k with
    | none => none
    | some N => if pivot N k n = n then none else some (nextM p n N k (pivot N k n))
def joinM (M : Nat → List Int) (ys : List Int) : Nat → List Int := fun i => M i ++ [ys.getD i 0]
def solM (p : Int) (n : Nat) (M : Nat → List Int) : List Int × Bool := match gaussM p n M n with
  | none => ([], false)
  | some N => (mapTo (fun i => (N i).getD n 0) n, true)
def m_SolveLinear (p : Int) (n : Nat) (M : Nat → List Int) (ys : List Int) : List Int × Bool := if sysM p n M ys then solM p n (joinM M ys) else ([], false)

theorem gaussM_none {p : Int} {n : Nat} {M : Nat → List Int} {k : Nat} (h : gaussM p n M k = none) : ∀ d, gaussM p n M (k + d) = none := by
  intro d
  induction d with
  | zero => exact h
  | succ d ih => rw [← Nat.add_assoc, gaussM, ih]
theorem sysM_yes {p : Int} {n : Nat} {M : Nat → List Int} {ys : List Int} (h : sysM p n M ys = true) : primeB p = true ∧ 1 ≤ n ∧ n ≤ 6 ∧ ys.length = n ∧ (∀ i, i < n → (M i).length = n) ∧ GoodM p n (joinM M ys) := by
  obtain ⟨h1, h2, h3, h4, h5⟩ := of_decide_eq_true h
  have hy := elsIn_yes h5
  have p2 := (primeB_yes hy.1).1
  refine ⟨hy.1, h1, h2, h3, fun i hi => (h4 i hi).1, fun i hi => ⟨by rw [joinM, List.length_append, (h4 i hi).1]; rfl, all_in p2 fun j hj => ?_⟩⟩
  have hrow := elsIn_yes (h4 i hi).2
  rw [joinM, List.length_append, (h4 i hi).1] at hj
  have hl := (h4 i hi).1
  by_cases e : j < n
  · have e2 : (joinM M ys i).getD j 0 = (M i).getD j 0 := by
      rw [joinM, List.getD, List.getElem?_append_left (by omega), List.getD]
    rw [e2]
    exact hrow.2 j (by omega)
  · have e2 : (joinM M ys i).getD j 0 = ys.getD i 0 := by
      have : j = n := by simp at hj; omega
      rw [joinM, List.getD, List.getElem?_append_right (by omega), hl, this, Nat.sub_self]
      rfl
    rw [e2]
    exact hy.2 i (by omega)

set_option maxRecDepth 100000 in
set_option maxHeartbeats 1000000 in
theorem areEquations_any (p : Int) (A : Option Addr) (n c : Nat) (M : Nat → List Int) (Y : Option Addr) (q cq : Nat) (ys : List Int) (r : Bool) (w : World) (hp : I64 p) (h : HasM w A n M) (hn : n ≤ 16777216) (hY : Has w Y q ys) (hq : q ≤ 16777216) (hr : sysM p n M ys = r) :
    Calls Try.prog 60 #[.int .i64 p, .slice A n c, .slice Y q cq] w fun e w' => e = .returned (.bool r) ∧ w = w' := by
  have HR := Lib.hid hr
  have HYL := Lib.hid hY.1
  clear hr
  by_cases hc : 1 ≤ n ∧ n ≤ 6 ∧ q = n
  · obtain ⟨n1, n6, rfl⟩ := hc
    go_enter Try.func60, Try.ntmps60
    go_wp2
    go_loop [26] (fun i => ∃ k : Nat, k ≤ q ∧ i = .int .i64 k ∧ Hid (∀ i, i < k → (M i).length = q ∧ elsIn p (M i) = true)) (fun i => q - (intOf i).toNat)
    case atStart => exact ⟨0, Nat.zero_le _, rfl, fun i hi => absurd hi (by omega)⟩
    case round =>
      obtain ⟨k, hk, rfl, HK⟩ := hrel
      by_cases hlt : k < q
      · obtain ⟨ad, R, m, cR, rfl, hcR, hRow, hm1, hmc, hNil⟩ := h.elem hlt
        have HRL := Lib.hid hRow.1
        by_cases hmq : m = q
        · subst hmq
          cases hb : elsIn p (M k) with
          | true =>
            have HB := Lib.hid hb
            clear hb
            go_wp2_with fail
            refine (areElements_any p R m cR (M k) true w hp hRow hm1 HB.out).mono ?_
            rintro e w' ⟨rfl, rfl⟩
            go_wp2
            go_round
            case rel =>
              refine ⟨k + 1, by omega, by go_num, fun i hi => ?_⟩
              by_cases e : i = k
              · rw [e]; exact ⟨HRL.out, HB.out⟩
              · exact HK.out i (by omega)
            case measure => simp [intOf]; omega
          | false =>
            have HB := Lib.hid hb
            clear hb
            go_wp2_with fail
            refine (areElements_any p R m cR (M k) false w hp hRow hm1 HB.out).mono ?_
            rintro e w' ⟨rfl, rfl⟩
            go_wp2
            go_ret
            have e := HR.out
            rw [show sysM p m M ys = false from decide_eq_false fun h => by have := (h.2.2.2.1 k hlt).2; rw [HB.out] at this; cases this] at e
            subst e
            exact ⟨rfl, rfl⟩
        · have hne : ((m : Int) != (q : Int)) = true := by simp; omega
          go_wp2
          go_ret
          have e := HR.out
          rw [show sysM p q M ys = false from decide_eq_false fun h => hmq (HRL.out.symm.trans (h.2.2.2.1 k hlt).1)] at e
          subst e
          exact ⟨rfl, rfl⟩
      · obtain rfl : k = q := by omega
        cases hb : elsIn p ys with
        | true =>
          have HB := Lib.hid hb
          clear hb
          go_wp2_with fail
          refine (areElements_any p Y k cq ys true w hp hY hq HB.out).mono ?_
          rintro e w' ⟨rfl, rfl⟩
          go_wp2
          go_ret
          have e := HR.out
          rw [show sysM p k M ys = true from decide_eq_true ⟨n1, n6, HYL.out, HK.out, HB.out⟩] at e
          subst e
          exact ⟨rfl, rfl⟩
        | false =>
          have HB := Lib.hid hb
          clear hb
          go_wp2_with fail
          refine (areElements_any p Y k cq ys false w hp hY hq HB.out).mono ?_
          rintro e w' ⟨rfl, rfl⟩
          go_wp2
          go_ret
          have e := HR.out
          rw [show sysM p k M ys = false from decide_eq_false fun h => by have := h.2.2.2.2; rw [HB.out] at this; cases this] at e
          subst e
          exact ⟨rfl, rfl⟩
  · have hno : r = false := by
      rw [← HR.out]
      exact decide_eq_false fun h => hc ⟨h.1, h.2.1, by have := HYL.out; have := h.2.2.1; omega⟩
    subst hno
    by_cases h1 : n < 1
    · clear hc
      go_enter Try.func60, Try.ntmps60
      go_wp2
      go_ret
      exact ⟨rfl, rfl⟩
    · have h1' : 1 ≤ n := by omega
      clear h1
      by_cases h2 : 6 < n
      · clear hc
        go_enter Try.func60, Try.ntmps60
        go_wp2
        go_ret
        exact ⟨rfl, rfl⟩
      · have h2' : n ≤ 6 := by omega
        have hne : ((q : Int) != (n : Int)) = true := by simp; omega
        clear hc h2
        go_enter Try.func60, Try.ntmps60
        go_wp2
        go_ret
        exact ⟨rfl, rfl⟩

set_option maxRecDepth 100000 in
set_option maxHeartbeats 1000000 in
theorem impl_SolveLinear (p : Int) (A : Option Addr) (n c : Nat) (M : Nat → List Int) (Y : Option Addr) (q cq : Nat) (ys : List Int) (rs : List Int) (rb : Bool) (w : World) (hp : I64 p) (h : HasM w A n M) (hn : n ≤ 16777216) (hY : Has w Y q ys) (hq : q ≤ 16777216) (hm : m_SolveLinear p n M ys = (rs, rb)) :
    Calls Try.prog 32 #[.int .i64 p, .slice A n c, .slice Y q cq] w fun e w' => ∃ R m' c', e = .returned (.tuple #[.slice R m' c', .bool rb]) ∧ Own w' w.heap.size R m' c' rs ∧ m' ≤ 16777216 ∧ Below w.heap.size w w' := by
  have bA := Boxed.new w 42 (.slice A n c)
  have bY := Boxed.new (w.alloc (.cells #[.slice A n c] 42)) 32 (.slice Y q cq)
  simp only [World.size_alloc] at bY
  have cA := (bA.alloc (.cells #[.slice Y q cq] 32)).cell
  have cY := bY.cell
  obtain ⟨w1, hw1⟩ : ∃ w1, (w.alloc (.cells #[.slice A n c] 42)).alloc (.cells #[.slice Y q cq] 32) = w1 := ⟨_, rfl⟩
  have hb1 : Below w.heap.size w w1 := by rw [← hw1]; exact ((Below.refl _ w).alloc (Nat.le_refl _) _).alloc (by simp) _
  have hs1 : w1.heap.size = w.heap.size + 2 := by rw [← hw1]; simp
  rw [hw1] at cA cY
  have h1 := h.below hb1
  have hY1 := hY.below hb1
  have HYL := Lib.hid hY.1
  have HW := Lib.hid hw1
  clear bA bY hw1 h hY
  cases hs : sysM p n M ys with
  | false =>
    rw [m_SolveLinear, hs, if_neg (by simp)] at hm
    obtain ⟨rfl, rfl⟩ := Prod.mk.inj hm
    have HS := Lib.hid hs
    clear hs hm
    go_enter Try.func32, Try.ntmps32
    go_wp2_with fail
    rw [HW.out]
    refine (areEquations_any p A n c M Y q cq ys false w1 hp h1 hn hY1 hq HS.out).mono ?_
    rintro e w' ⟨rfl, rfl⟩
    go_wp2_with fail
    go_ret2
    exact ⟨none, 0, 0, rfl, Own.nil_ _ _, by omega, hb1⟩
  | true =>
    rw [m_SolveLinear, hs, if_pos rfl] at hm
    obtain ⟨hpr, n1, n6, hyl, hlen, hgood⟩ := sysM_yes hs
    obtain ⟨p2, p251⟩ := primeB_yes hpr
    obtain rfl : q = n := by rw [← HYL.out]; exact hyl
    have HS := Lib.hid hs
    have HM := Lib.hid hm
    have HLen := Lib.hid hlen
    have HG := Lib.hid hgood
    clear hs hm hpr hyl hlen hgood
    go_enter Try.func32, Try.ntmps32
    go_wp2_with fail
    rw [HW.out]
    refine (areEquations_any p A q c M Y q cq ys true w1 hp h1 hn hY1 hq HS.out).mono ?_
    rintro e w' ⟨rfl, rfl⟩
    go_wp2_with fail
    refine (changedRows_any A q c M Y q cq ys (w.heap.size + 1) w1 h1 hn (fun i hi => by rw [HLen.out i hi]; omega) hY1 cY (by omega) (Nat.le_refl _)).mono ?_
    rintro e w2 ⟨g, rfl, hm2, hb2⟩
    have hg := hm2.lt
    have cA2 := cellKept hb2 (by omega) cA
    have hb3 := hb1.trans (hb2.mono (by omega))
    have hm2' : MatR w2 w1.heap.size g q (joinM M ys) := hm2
    have hs2 := hb2.size
    clear hm2 hb2 cA cY h1 hY1 hb1
    go_wp2
    go_loopw [20] (fun kv wr => ∃ (k : Nat) (N : Nat → List Int), k ≤ q ∧ kv = .int .i64 k ∧ MatR wr w1.heap.size g q N ∧ w2.grownBy wr (some g) ∧ Hid (gaussM p q (joinM M ys) k = some N) ∧ Hid (GoodM p q N)) (fun kv _ => q - (intOf kv).toNat)
    case atStart => exact ⟨0, _, Nat.zero_le _, rfl, hm2', World.grownBy.refl _ _, rfl, HG.out⟩
    case round =>
      obtain ⟨k, N, hk, rfl, hmN, hgr, HGa, HGN⟩ := hrel
      have hbr : Below w.heap.size w wr := hb3.grown hgr (by omega) (fun k hk => by cases hk; omega)
      by_cases hlt : k < q
      · go_wp2_with fail
        refine (eliminate_any p w1.heap.size g q k N wr p2 p251 hlt n6 hmN HGN.out).mono ?_
        rintro e w4 (⟨rfl, hb4, HP⟩ | ⟨r, hr, rfl, hg4, HP, hm4⟩)
        · go_wp2_with fail
          go_ret2
          have hnone : gaussM p q (joinM M ys) q = none := by
            have h0 : gaussM p q (joinM M ys) (k + 1) = none := by rw [gaussM, HGa.out]; exact if_pos HP.out
            have := gaussM_none h0 (q - (k + 1))
            rwa [show k + 1 + (q - (k + 1)) = q by omega] at this
          have e := HM.out
          rw [solM, hnone] at e
          obtain ⟨rfl, rfl⟩ := Prod.mk.inj e
          exact ⟨none, 0, 0, rfl, Own.nil_ _ _, by omega, hbr.trans (hb4.mono hbr.size)⟩
        · go_wp2
          go_roundw
          case rel =>
            refine ⟨k + 1, nextM p q N k r, by omega, by go_num, hm4, grownTrans hgr hg4, ?_, GoodM.next p2⟩
            show gaussM p q (joinM M ys) (k + 1) = _
            rw [gaussM, HGa.out]
            show (if pivot N k q = q then none else some (nextM p q N k (pivot N k q))) = _
            rw [HP.out, if_neg (by omega)]
          case measure => simp [intOf]; omega
      · obtain rfl : q = k := by omega
        have cAr := grownCell hgr (by omega) (by omega) cA2
        have hmt := hmN.tail 0
        have hsr := hgr.size
        go_wp2_with fail
        refine (changedOut_any (some ⟨g, 0, none⟩) q q (fun i => N (0 + i)) A c w.heap.size wr hmt hn (fun i hi => by rw [(HGN.out (0 + i) (by omega)).1]; omega) cAr (by omega)).mono ?_
        rintro e w4 ⟨R, rfl, ho, hb4⟩
        go_wp2_with fail
        go_ret2
        have e := HM.out
        rw [solM, HGa.out] at e
        obtain ⟨h5, rfl⟩ := Prod.mk.inj e
        have ho' : Own w4 wr.heap.size R q q (mapTo (fun i => (N i).getD q 0) q) := by
          have : mapTo (fun i => (N (0 + i)).getD q 0) q = mapTo (fun i => (N i).getD q 0) q := mapTo_eq fun i _ => by rw [Nat.zero_add]
          rw [← this]; exact ho
        rw [h5] at ho'
        exact ⟨R, q, q, rfl, ho'.mono (by omega), hn, hbr.trans (hb4.mono hbr.size)⟩

end Go.Proofs.Ytkmnhdnifpglnaa
