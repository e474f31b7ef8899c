/- The program's list after steps (exchange, afterSteps), SortWith. For valid networks. -/
import Derived.Test.YteiibneaihdmbaaSoI1
import Derived.Test.YteiibneaihdmbaaSoG2
import Derived.Test.YteiibneaihdmbaaMat2
import Derived.Deep.DeepCutAuto
namespace Go.Proofs.Yteiibneaihdmbaa
open Go Go.RowKit
set_option maxRecDepth 100000

set_option maxRecDepth 100000 in
set_option maxHeartbeats 2000000 in
theorem exchange_any (a b r m c B : Nat) (xs : List Int) (t : Bool) (w : World) (hab : a < b) (hbm : b < m) (_hm : m ≤ 12) (ho : Own w B (some ⟨r, 0, none⟩) m c xs) (ht : swaps ((a : Int), (b : Int)) xs = t) :
    Calls Try.prog 140 #[.agg #[.int .i64 (a : Int), .int .i64 (b : Int)], .slice (some ⟨r, 0, none⟩) m c] w fun e w' => e = .returned (.bool t) ∧ Own w' B (some ⟨r, 0, none⟩) m c (exch ((a : Int), (b : Int)) xs) ∧ w.grownBy w' (some r) := by
  have B1 := belowNew w (.cells #[.int .i64 (a : Int), .int .i64 (b : Int)] 93)
  obtain ⟨p, hp⟩ : ∃ p, p = xs.getD a 0 := ⟨_, rfl⟩
  obtain ⟨q, hq⟩ : ∃ q, q = xs.getD b 0 := ⟨_, rfl⟩
  have cA : w.cell? ⟨r, a, none⟩ = some (.int .i64 p) := by rw [hp]; exact ho.cellR (by omega)
  have cB : w.cell? ⟨r, b, none⟩ = some (.int .i64 q) := by rw [hq]; exact ho.cellR hbm
  have fA := ho.freeR a
  have fB := ho.freeR b
  have rl : r < w.heap.size := (ho.born _ rfl).2
  have A0 : (0 : Int) ≤ (a : Int) := by omega
  have A1 : (a : Int) < (m : Int) := by omega
  have B0 : (0 : Int) ≤ (b : Int) := by omega
  have B1' : (b : Int) < (m : Int) := by omega
  have e0 : swaps ((a : Int), (b : Int)) xs = decide (q < p) := by rw [swaps, hp, hq]; simp
  have HO := Lib.hid ho
  by_cases hpq : q < p
  · have ht' : true = t := by rw [← ht, e0, decide_eq_true hpq]
    have ex : Hid (exch ((a : Int), (b : Int)) xs = (xs.set a q).set b p) := by show _ = _; rw [exch_yes (by rw [ht, ← ht']), hp, hq]; simp
    subst ht'
    clear ht e0 hp hq ho
    go_enter Try.func140, Try.ntmps140
    go_wp2_with fail
    go_quiet (fail)
    go_wp2_with fail
    go_region
    go_wp2_with fail
    go_ret
    have hb := below_drewN (belowNew w (.cells #[.int .i64 (a : Int), .int .i64 (b : Int)] 93)) (nq + 1)
    have g := grown_setCell (grown_setCell (grownOf hb (some r)) a (.int .i64 q)) b (.int .i64 p)
    exact ⟨rfl, by rw [ex.out]; exact ((HO.out.below hb).putR a q).putR b p, g⟩
  · have ht' : false = t := by rw [← ht, e0, decide_eq_false hpq]
    have ex : Hid (exch ((a : Int), (b : Int)) xs = xs) := by show _ = _; rw [exch_no (by rw [ht, ← ht'])]
    subst ht'
    clear ht e0 hp hq ho
    go_enter Try.func140, Try.ntmps140
    go_wp2_with fail
    go_quiet (fail)
    go_wp2_with fail
    go_ret
    have hb := below_drewN (belowNew w (.cells #[.int .i64 (a : Int), .int .i64 (b : Int)] 93)) nq
    exact ⟨rfl, by rw [ex.out]; exact HO.out.below hb, grownOf hb _⟩

/-- The steps so far applied in place. -/
theorem afterSteps_any (A : Option Addr) (n c : Nat) (l : List St) (X : Option Addr) (m d : Nat) (xs : List Int) (w : World) (h : HasT w A n l) (hx : Has w X m xs) (hN : Net m l) :
    Calls Try.prog 94 #[.slice A n c, .slice X m d] w fun e w' => ∃ r c', e = .returned (.slice (some ⟨r, 0, none⟩) m c') ∧ Own w' w.heap.size (some ⟨r, 0, none⟩) m c' (aft l xs n) ∧ Below w.heap.size w w' := by
  have hn : n ≤ 60 := by rw [← h.1]; exact hN.short
  have hm0 := hN.one
  have hm1 := hN.twelve
  have HL := Lib.hid h.1
  have HN := Lib.hid hN
  obtain ⟨xd, rfl, _⟩ := hx.2 (by omega)
  have HX := Lib.hid (clone_any xd m d xs w hx (by omega))
  clear hN hx
  go_enter Try.func94, Try.ntmps94
  go_wp2_with fail
  refine (HX.out).mono ?_
  rintro e w1 ⟨R, c', rfl, ho1, b1⟩
  obtain ⟨r, rfl⟩ := ho1.spot (by omega)
  have hr0 : w.heap.size ≤ r := (ho1.born _ rfl).1
  have HO := Lib.hid ho1
  clear ho1
  go_wp2_with fail
  go_loopw [12] (fun i wr => ∃ k : Nat, k ≤ n ∧ i = .int .i64 k ∧ Own wr w.heap.size (some ⟨r, 0, none⟩) m c' (aft l xs k) ∧ Below w.heap.size w wr) (fun i _ => n - (intOf i).toNat)
  case atStart => exact ⟨0, Nat.zero_le _, rfl, HO.out, b1⟩
  case round =>
    obtain ⟨k, hk, rfl, ho, bk⟩ := hrel
    by_cases hlt : k < n
    · obtain ⟨ad, u, v, rfl, hu, hv, HE⟩ := (h.below bk).elem hlt
      have q0 : (0 : Int) ≤ (k : Int) := by omega
      have q1 : (k : Int) < (n : Int) := by omega
      have hok := HN.out.ok k (by rw [HL.out]; exact hlt)
      rw [HE.out] at hok
      obtain ⟨o0, o1, o2⟩ := hok
      obtain ⟨a, rfl⟩ := natOf (x := u) o0
      obtain ⟨b, rfl⟩ := natOf (x := v) (by omega)
      have hab : a < b := by omega
      have hbm : b < m := by omega
      have B1 := belowNew wr (.cells #[.int .i64 (a : Int), .int .i64 (b : Int)] 93)
      obtain ⟨t, ht⟩ : ∃ t, swaps ((a : Int), (b : Int)) (aft l xs k) = t := ⟨_, rfl⟩
      have HC := Lib.hid (exchange_any a b r m c' w.heap.size (aft l xs k) t _ hab hbm hm1 (ho.below B1) ht)
      have HA : Hid (exch ((a : Int), (b : Int)) (aft l xs k) = aft l xs (k + 1)) := by show _ = _; rw [aft, HE.out]
      have BK := Lib.hid (bk.trans (B1.mono bk.size))
      clear ht o0 o1 o2 ho bk B1
      go_wp2_with fail
      refine (HC.out).mono ?_
      rintro e w2 ⟨rfl, ho2, g2⟩
      rw [HA.out] at ho2
      go_wp2_with fail
      go_roundw
      case rel => exact ⟨k + 1, by omega, by go_num, ho2, BK.out.grown g2 BK.out.size (fun k hk => by cases hk; exact hr0)⟩
      case measure => simp [intOf]; omega
    · obtain rfl : k = n := by omega
      go_wp2_with fail
      go_ret
      exact ⟨r, c', rfl, ho, bk⟩

theorem allInNo {lo hi : Int} {zs : List Int} {k : Nat} (hk : k < zs.length) (h : ¬ (lo ≤ zs.getD k 0 ∧ zs.getD k 0 ≤ hi)) : allIn lo hi zs = false := by
  rw [← Bool.not_eq_true]
  exact fun e => h (allIn_yes e k hk)

set_option maxHeartbeats 1000000 in
theorem notMild_any (z : Int) (b : Bool) (w : World) (hb : (decide (-1000000 ≤ z) && decide (z ≤ 1000000)) = b) :
    Calls Try.prog 138 #[.int .i64 z] w fun e w' => e = .returned (.bool (!b)) ∧ w = w' := by
  have HB := Lib.hid hb
  clear hb
  by_cases d : z < -1000000
  · have HF : Hid (true = !b) := by show _ = _; rw [← HB.out, decide_eq_false (by omega)]; rfl
    go_enter Try.func138, Try.ntmps138
    go_wp2_with fail
    go_ret
    exact ⟨retBl HF.out, rfl⟩
  · have HF : Hid (decide (1000000 < z) = !b) := by
      show _ = _
      rw [← HB.out, decide_eq_true (show -1000000 ≤ z by omega), Bool.true_and]
      by_cases e : z ≤ 1000000
      · rw [decide_eq_true e, decide_eq_false (by omega)]; rfl
      · rw [decide_eq_false e, decide_eq_true (by omega)]; rfl
    go_enter Try.func138, Try.ntmps138
    go_wp2_with fail
    go_ret
    exact ⟨retBl (by rw [← HF.out]), rfl⟩

set_option maxHeartbeats 1000000 in
theorem mildIdx_any (A : Option Addr) (n c : Nat) (zs : List Int) (b : Bool) (w : World) (hb : allIn (-1000000) 1000000 zs = b) (h : Has w A n zs) (hn : n ≤ 16777216) :
    Calls Try.prog 150 #[.slice A n c, .func (.func 138) #[] #[]] w fun e w' => ∃ j : Int, e = .returned (.int .i64 j) ∧ decide (0 ≤ j) = (!b) ∧ w = w' := by
  have HL := Lib.hid h.1
  have HB := Lib.hid hb
  clear hb
  go_enter Try.func150, Try.ntmps150
  go_wp2_with fail
  go_loop [8] (fun i => ∃ k : Nat, k ≤ n ∧ i = .int .i64 k ∧ Hid (∀ j, j < k → -1000000 ≤ zs.getD j 0 ∧ zs.getD j 0 ≤ 1000000)) (fun i => n - (intOf i).toNat)
  case atStart => exact ⟨0, Nat.zero_le _, rfl, fun j hj => absurd hj (by omega)⟩
  case round =>
    obtain ⟨k, hk, rfl, HJ⟩ := hrel
    by_cases hlt : k < n
    · obtain ⟨ad, z, rfl, hc, HZ⟩ := h.elem hlt
      have q0 : (0 : Int) ≤ (k : Int) := by omega
      have q1 : (k : Int) < (n : Int) := by omega
      obtain ⟨y, hy⟩ : ∃ y, (decide (-1000000 ≤ z) && decide (z ≤ 1000000)) = y := ⟨_, rfl⟩
      have HC := Lib.hid (notMild_any z y w hy)
      have HY := Lib.hid hy
      clear hy
      cases y with
      | false =>
        have e : false = b := by
          rw [← HB.out]
          refine (allInNo (k := k) (by rw [HL.out]; exact hlt) ?_).symm
          rw [← HZ.out]
          rintro ⟨a1, a2⟩
          have := HY.out
          rw [decide_eq_true a1, decide_eq_true a2] at this
          cases this
        subst e
        go_wp2_with fail
        refine (HC.out).mono ?_
        rintro e w2 ⟨rfl, rfl⟩
        go_wp2_with fail
        go_ret
        exact ⟨(k : Int), rfl, by simp, rfl⟩
      | true =>
        have HN2 : Hid (∀ j, j < k + 1 → -1000000 ≤ zs.getD j 0 ∧ zs.getD j 0 ≤ 1000000) := fun j hj => by
          by_cases e : j = k
          · rw [e, ← HZ.out]
            have := HY.out
            simp at this
            omega
          · exact HJ.out j (by omega)
        go_wp2_with fail
        refine (HC.out).mono ?_
        rintro e w2 ⟨rfl, rfl⟩
        go_wp2_with fail
        go_round
        case rel => exact ⟨k + 1, by omega, by go_num, HN2⟩
        case measure => simp [intOf]; omega
    · have e : true = b := by rw [← HB.out]; exact (allIn_mk (fun j hj => HJ.out j (by have := HL.out; omega))).symm
      subst e
      go_wp2_with fail
      go_ret
      exact ⟨-1, rfl, by first | rfl | simp | omega, rfl⟩

set_option maxHeartbeats 1000000 in
theorem mildAny_any (A : Option Addr) (n c : Nat) (zs : List Int) (b : Bool) (w : World) (hb : allIn (-1000000) 1000000 zs = b) (h : Has w A n zs) (hn : n ≤ 16777216) :
    Calls Try.prog 119 #[.slice A n c, .func (.func 138) #[] #[]] w fun e w' => e = .returned (.bool (!b)) ∧ w = w' := by
  have HI := Lib.hid (mildIdx_any A n c zs b w hb h hn)
  clear hb h
  go_enter Try.func119, Try.ntmps119
  go_wp2_with fail
  refine (HI.out).mono ?_
  rintro e w2 ⟨j, rfl, hj, rfl⟩
  have HJ := Lib.hid hj
  clear hj
  go_wp2_with fail
  go_ret
  exact ⟨by rw [← HJ.out]; rfl, rfl⟩

set_option maxHeartbeats 1000000 in
theorem areSortable_any (x : Int) (A : Option Addr) (n c : Nat) (zs : List Int) (b : Bool) (w : World) (h : Has w A n zs) (hn : n ≤ 16777216) (hb : (decide ((n : Int) = x) && allIn (-1000000) 1000000 zs) = b) :
    Calls Try.prog 93 #[.int .i64 x, .slice A n c] w fun e w' => e = .returned (.bool b) ∧ w = w' := by
  obtain ⟨z, hz⟩ : ∃ z, allIn (-1000000) 1000000 zs = z := ⟨_, rfl⟩
  have HC := Lib.hid (mildAny_any A n c zs z w hz h hn)
  rw [hz] at hb
  have HB := Lib.hid hb
  clear hb hz h
  by_cases d : (n : Int) = x
  · subst d
    have e : z = b := by rw [← HB.out]; simp
    subst e
    clear HB
    go_enter Try.func93, Try.ntmps93
    go_wp2_with fail
    refine (HC.out).mono ?_
    rintro e w2 ⟨rfl, rfl⟩
    go_wp2_with fail
    go_ret
    exact ⟨retBl (by simp), rfl⟩
  · have e : false = b := by rw [← HB.out, decide_eq_false d]; rfl
    subst e
    have hb0 : ((n : Int) == x) = false := by simpa using d
    clear HB
    go_enter Try.func93, Try.ntmps93
    go_wp2_with fail
    go_ret
    exact ⟨rfl, rfl⟩

set_option maxHeartbeats 2000000 in
theorem impl_SortWith (x : Int) (A : Option Addr) (n c : Nat) (l : List St) (X : Option Addr) (m d : Nat) (xs : List Int) (rs : List Int) (rb : Bool) (w : World) (_hx : I64 x) (h : HasT w A n l) (hn : n ≤ 1048576) (_ : NilOk A n c) (hX : Has w X m xs) (hm : m ≤ 16777216) (_ : NilOk X m d)
    (hM : m_SortWith x l xs = (rs, rb)) :
    Calls Try.prog 31 #[.int .i64 x, .slice A n c, .slice X m d] w fun e w' => ∃ R k c', e = .returned (.tuple #[.slice R k c', .bool rb]) ∧ Own w' w.heap.size R k c' rs ∧ k ≤ 16777216 ∧ Below w.heap.size w w' := by
  have HL := Lib.hid h.1
  have HXL := Lib.hid hX.1
  have HM := Lib.hid hM
  obtain ⟨y, hy⟩ : ∃ y, netB x l = y := ⟨_, rfl⟩
  obtain ⟨z, hz⟩ : ∃ z, (decide ((m : Int) = x) && allIn (-1000000) 1000000 xs) = z := ⟨_, rfl⟩
  have HG := Lib.hid (isNetwork_any x A n c l y w h hn hy)
  have HY := Lib.hid hy
  have HZ := Lib.hid hz
  have hA := Lib.hid (fun w' (hb : Below w.heap.size w w') => areSortable_any x X m d xs z w' (hX.below hb) hm HZ.out)
  have hs : Hid (sortAsk x l xs = (y && z)) := by show _ = _; rw [sortAsk, HY.out, HXL.out, HZ.out]
  have HNo : Hid ((y && z) = false → rs = [] ∧ rb = false) := fun e => by
    have := HM.out
    rw [m_SortWith, if_neg (by rw [hs.out, e]; decide)] at this
    injection this with a b
    exact ⟨a.symm, b.symm⟩
  clear hM hy hz
  cases y with
  | false =>
    obtain ⟨rfl, rfl⟩ := HNo.out rfl
    go_enter Try.func31, Try.ntmps31
    go_wp2_with fail
    refine (HG.out).mono ?_
    rintro e w1 ⟨rfl, b1⟩
    go_wp2_with fail
    go_ret2
    exact ⟨none, 0, 0, rfl, Own.nil_ _ _, by omega, b1⟩
  | true =>
  cases z with
  | false =>
    obtain ⟨rfl, rfl⟩ := HNo.out rfl
    go_enter Try.func31, Try.ntmps31
    go_wp2_with fail
    refine (HG.out).mono ?_
    rintro e w1 ⟨rfl, b1⟩
    go_wp2_with fail
    refine (hA.out w1 b1).mono ?_
    rintro e w2 ⟨rfl, rfl⟩
    go_wp2_with fail
    go_ret2
    exact ⟨none, 0, 0, rfl, Own.nil_ _ _, by omega, b1⟩
  | true =>
    have hR : aft l xs n = rs ∧ true = rb := by
      have := HM.out
      rw [m_SortWith, if_pos (by rw [hs.out]; rfl), HL.out] at this
      injection this with a b
      exact ⟨a, b⟩
    obtain ⟨rfl, rfl⟩ := hR
    obtain ⟨N, rfl, hNet⟩ := net_yes HY.out
    have hmN : m = N := by
      have := HZ.out
      rw [Bool.and_eq_true, decide_eq_true_eq] at this
      omega
    subst hmN
    have hS := Lib.hid (fun w' (hb : Below w.heap.size w w') => afterSteps_any A n c l X m d xs w' (h.below hb) (hX.below hb) hNet)
    clear h hX hNet
    go_enter Try.func31, Try.ntmps31
    go_wp2_with fail
    refine (HG.out).mono ?_
    rintro e w1 ⟨rfl, b1⟩
    go_wp2_with fail
    refine (hA.out w1 b1).mono ?_
    rintro e w2 ⟨rfl, rfl⟩
    go_wp2_with fail
    refine (hS.out w1 b1).mono ?_
    rintro e w2 ⟨r, c', rfl, ho, b2⟩
    go_wp2_with fail
    go_ret2
    exact ⟨_, m, c', rfl, ho.mono b1.size, hm, b1.trans (b2.mono b1.size)⟩

end Go.Proofs.Yteiibneaihdmbaa
