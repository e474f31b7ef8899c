/- What the tests of points do, the program's and the model's: whether a number is a prime up to 251, two lists are as long as each other and of at most 12 elements of its field, and the first has no element twice. For slices of at most 16777216 elements. -/
import Derived.Test.YtkmnhdnifpglnaaFld7
import Derived.Test.YtkmnhdnifpglnaaPolyMath2
namespace Go.Proofs.Ytkmnhdnifpglnaa
open Go.RowKit

theorem tmodEmod (a m : Int) : a.tmod m % m = a % m := by
  have h := Int.tmod_add_mul_tdiv a m
  conv => rhs; rw [← h]
  rw [Int.add_mul_emod_self_left]
theorem retI {a b : Int} (h : a = b) : Ending.returned (.int .i64 a) = Ending.returned (.int .i64 b) := by rw [h]

set_option maxHeartbeats 400000 in
theorem res_any (a m r : Int) (w : World) (ha : -2000000 ≤ a) (hb : a ≤ 2000000) (hm : 0 < m) (hm2 : m ≤ 1000) (hr : a % m = r) :
    Calls Try.prog 75 #[.int .i64 a, .int .i64 m] w fun e w' => e = .returned (.int .i64 r) ∧ w = w' := by
  have HR := Lib.hid hr
  clear hr
  by_cases h0 : 0 ≤ a
  · have e0 := Int.emod_nonneg a (show m ≠ 0 by omega)
    have e1 := Int.emod_lt_of_pos a hm
    go_enter Try.func75, Try.ntmps75
    go_wp2
    go_ret
    exact ⟨retI (by rw [Int.add_emod_right, Int.emod_emod, HR.out]), rfl⟩
  · have e0 := Int.lt_tmod_of_pos a hm
    have e1 := Int.tmod_lt_of_pos a hm
    go_enter Try.func75, Try.ntmps75
    go_wp2
    go_ret
    exact ⟨retI (by rw [tmodEmod, HR.out]), rfl⟩

set_option maxHeartbeats 400000 in
theorem mod_any (a m r : Int) (w : World) (ha : -2000000 ≤ a) (hb : a ≤ 2000000) (hm : 0 < m) (hm2 : m ≤ 1000) (hr : a % m = r) :
    Calls Try.prog 53 #[.int .i64 a, .int .i64 m] w fun e w' => e = .returned (.int .i64 r) ∧ w = w' := by
  have HR := Lib.hid hr
  clear hr
  by_cases h0 : 0 ≤ a
  · have e0 := Int.emod_nonneg a (show m ≠ 0 by omega)
    have e1 := Int.emod_lt_of_pos a hm
    go_enter Try.func53, Try.ntmps53
    go_wp2
    go_ret
    exact ⟨retI (by rw [Int.add_emod_right, Int.emod_emod, HR.out]), rfl⟩
  · have e0 := Int.lt_tmod_of_pos a hm
    have e1 := Int.tmod_lt_of_pos a hm
    go_enter Try.func53, Try.ntmps53
    go_wp2
    go_ret
    exact ⟨retI (by rw [tmodEmod, HR.out]), rfl⟩

set_option maxHeartbeats 1000000 in
theorem index_any (A : Option Addr) (n c : Nat) (zs : List Int) (x : Int) (w : World) (h : Has w A n zs) (hn : n ≤ 16777216) :
    Calls Try.prog 87 #[.slice A n c, .int .i64 x] w fun e w' => ∃ i : Int, e = .returned (.int .i64 i) ∧ w = w' ∧ -1 ≤ i ∧ i ≤ 16777216 ∧ (0 ≤ i ↔ x ∈ zs) := by
  have HL := Lib.hid h.1
  go_enter Try.func87, Try.ntmps87
  go_wp2
  go_loop [8] (fun i => ∃ k : Nat, k ≤ n ∧ i = .int .i64 k ∧ Hid (∀ j, j < k → zs.getD j 0 ≠ x)) (fun i => n - (intOf i).toNat)
  case atStart => exact ⟨0, Nat.zero_le _, rfl, fun j hj => absurd hj (by omega)⟩
  case round =>
    obtain ⟨k, hk, rfl, HJ⟩ := hrel
    by_cases hlt : k < n
    · obtain ⟨ad, z, rfl, hc, HZ⟩ := h.elem hlt
      by_cases hz : x = z
      · subst hz
        go_wp2
        go_ret
        refine ⟨(k : Int), rfl, rfl, by omega, by omega, fun _ => ?_, fun _ => by omega⟩
        have hl := HL.out
        rw [HZ.out]
        simp [List.getD, show k < zs.length by omega]
      · have hz' : (x == z) = false := by simpa using hz
        have HK : Hid (∀ j, j < k + 1 → zs.getD j 0 ≠ x) := fun j hj => by
          by_cases e : j = k
          · rw [e, ← HZ.out]; exact fun e' => hz e'.symm
          · exact HJ.out j (by omega)
        clear hz
        go_wp2
        go_round
        case rel => exact ⟨k + 1, by omega, by go_num, HK⟩
        case measure => simp [intOf]; omega
    · obtain rfl : k = n := by omega
      go_wp2
      go_ret
      refine ⟨-1, rfl, rfl, by omega, by omega, fun h => by omega, fun hx => ?_⟩
      obtain ⟨i, hi, rfl⟩ := List.getElem_of_mem hx
      have := HJ.out i (by have := HL.out; omega)
      simp [List.getD, hi] at this

set_option maxHeartbeats 1000000 in
theorem contains_any (A : Option Addr) (n c : Nat) (zs : List Int) (x : Int) (b : Bool) (w : World) (h : Has w A n zs) (hn : n ≤ 16777216) (hb : decide (x ∈ zs) = b) :
    Calls Try.prog 84 #[.slice A n c, .int .i64 x] w fun e w' => e = .returned (.bool b) ∧ w = w' := by
  have HB := Lib.hid hb
  clear hb
  go_enter Try.func84, Try.ntmps84
  go_wp2_with fail
  refine (index_any A n c zs x _ h hn).mono ?_
  rintro e w' ⟨i, rfl, rfl, i0, i1, hi⟩
  have HI := Lib.hid hi
  clear hi
  go_wp2_with fail
  go_ret
  refine ⟨?_, rfl⟩
  have e := HB.out
  rw [← decide_eq_decide.2 HI.out] at e
  show Ending.returned (.bool (decide (0 ≤ i))) = _
  rw [e]

/-- The first k points are different. -/
def DiffTo (xs : List Int) (k : Nat) : Prop := ∀ i, i < k → ∀ j, j < i → xs.getD j 0 ≠ xs.getD i 0
instance (xs : List Int) (k : Nat) : Decidable (DiffTo xs k) := by unfold DiffTo; infer_instance
theorem diffTo_succ {xs : List Int} {k : Nat} (h : DiffTo xs k) (hk : ∀ j, j < k → xs.getD j 0 ≠ xs.getD k 0) : DiffTo xs (k + 1) := fun i hi j hj => by
  by_cases e : i = k
  · subst e; exact hk j hj
  · exact h i (by omega) j hj

set_option maxHeartbeats 1000000 in
theorem areDifferent_any (A : Option Addr) (n c : Nat) (zs : List Int) (b : Bool) (w : World) (h : Has w A n zs) (hn : n ≤ 16777216) (hnc : n ≤ c) (hb : decide (DiffTo zs n) = b) :
    Calls Try.prog 74 #[.slice A n c] w fun e w' => e = .returned (.bool b) ∧ w = w' := by
  have HB := Lib.hid hb
  have HL := Lib.hid h.1
  clear hb
  go_enter Try.func74, Try.ntmps74
  go_wp2
  go_loop [7] (fun i => ∃ k : Nat, k ≤ n ∧ i = .int .i64 k ∧ Hid (DiffTo zs k)) (fun i => n - (intOf i).toNat)
  case atStart => exact ⟨0, Nat.zero_le _, rfl, fun i hi => absurd hi (by omega)⟩
  case round =>
    obtain ⟨k, hk, rfl, HD⟩ := hrel
    by_cases hlt : k < n
    · obtain ⟨ad, z, rfl, hc, HZ⟩ := h.elem hlt
      have hT := h.take (k := k) hk
      cases hq : decide (z ∈ zs.take k) with
      | true =>
        have HQ := Lib.hid hq
        clear hq
        go_wp2_with (go_at_call 84; refine (contains_any (some ad) k c (zs.take k) z true _ hT (by omega) HQ.out).mono ?_; rintro e w' ⟨rfl, rfl⟩)
        go_ret
        refine ⟨?_, rfl⟩
        have hno : decide (DiffTo zs n) = false := decide_eq_false fun hd => by
          obtain ⟨i, hi, he⟩ := List.getElem_of_mem (of_decide_eq_true HQ.out)
          rw [List.length_take] at hi
          have hl := HL.out
          have := hd k hlt i (by omega)
          rw [List.getElem_take] at he
          rw [← HZ.out, ← he] at this
          simp [List.getD, show i < zs.length by omega] at this
        have e := HB.out
        rw [hno] at e
        subst e
        rfl
      | false =>
        have HQ := Lib.hid hq
        clear hq
        have HD' : Hid (DiffTo zs (k + 1)) := diffTo_succ HD.out fun j hj => by
          rw [← HZ.out]
          rintro rfl
          refine of_decide_eq_false HQ.out ?_
          have hl := HL.out
          rw [List.mem_iff_getElem]
          exact ⟨j, by rw [List.length_take]; omega, by rw [List.getElem_take]; simp [List.getD, show j < zs.length by omega]⟩
        go_wp2_with (go_at_call 84; refine (contains_any (some ad) k c (zs.take k) z false _ hT (by omega) HQ.out).mono ?_; rintro e w' ⟨rfl, rfl⟩)
        go_round
        case rel => exact ⟨k + 1, by omega, by go_num, HD'⟩
        case measure => simp [intOf]; omega
    · obtain rfl : k = n := by omega
      go_wp2
      go_ret
      have e := HB.out
      rw [decide_eq_true HD.out] at e
      subst e
      exact ⟨rfl, rfl⟩

/-- Points: at most 12 different elements of the field, and as many others. -/
def ptsOk (p : Int) (xs ys : List Int) : Bool := primeB p && (allIn 0 (p - 1) xs && (allIn 0 (p - 1) ys && decide (xs.length = ys.length ∧ DiffTo xs xs.length ∧ xs.length ≤ 12)))
theorem ptsOk_yes {p : Int} {xs ys : List Int} (h : ptsOk p xs ys = true) : Pts p xs ys xs.length ∧ xs.length ≤ 12 := by
  unfold ptsOk at h
  rw [Bool.and_eq_true, Bool.and_eq_true, Bool.and_eq_true, decide_eq_true_eq] at h
  obtain ⟨h1, h2, h3, h4, h5, h6⟩ := h
  refine ⟨⟨h1, rfl, h4.symm, fun k hk => ?_, fun k hk => ?_, fun i j hi hj hne => ?_⟩, h6⟩
  · have := allIn_yes h2 k hk; omega
  · have := allIn_yes h3 k (by omega); omega
  · by_cases hij : j < i
    · exact (h5 i hi j hij).symm
    · exact h5 j hj i (by omega)

set_option maxHeartbeats 1000000 in
theorem arePoints_any (p : Int) (A B : Option Addr) (n m c d : Nat) (xs ys : List Int) (r : Bool) (w : World) (hp : I64 p) (hx : Has w A n xs) (hy : Has w B m ys) (hn : n ≤ 16777216) (hm : m ≤ 16777216) (hnc : n ≤ c) (hr : ptsOk p xs ys = r) :
    Calls Try.prog 50 #[.int .i64 p, .slice A n c, .slice B m d] w fun e w' => e = .returned (.bool r) ∧ w = w' := by
  have lx := hx.1
  have ly := hy.1
  unfold ptsOk at hr
  rw [lx, ly] at hr
  by_cases h12 : n ≤ 12
  · by_cases hmn : m = n
    · obtain rfl : n = m := hmn.symm
      cases hq : primeB p with
      | false =>
        rw [hq, Bool.false_and] at hr
        subst hr
        have HX : Hid (elsIn p xs = false) := by show _ = _; rw [elsIn, hq, Bool.false_and]
        clear hq lx ly
        go_enter Try.func50, Try.ntmps50
        go_wp2_with fail
        refine (areElements_any p A n c xs false _ hp hx hn HX.out).mono ?_
        rintro e w' ⟨rfl, rfl⟩
        go_wp2_with fail
        go_ret
        exact ⟨rfl, rfl⟩
      | true =>
        rw [hq, Bool.true_and] at hr
        cases h2 : allIn 0 (p - 1) xs with
        | false =>
          rw [h2, Bool.false_and] at hr
          subst hr
          have HX : Hid (elsIn p xs = false) := by show _ = _; rw [elsIn, hq, h2]; rfl
          clear hq h2 lx ly
          go_enter Try.func50, Try.ntmps50
          go_wp2_with fail
          refine (areElements_any p A n c xs false _ hp hx hn HX.out).mono ?_
          rintro e w' ⟨rfl, rfl⟩
          go_wp2_with fail
          go_ret
          exact ⟨rfl, rfl⟩
        | true =>
          rw [h2, Bool.true_and] at hr
          have HX : Hid (elsIn p xs = true) := by show _ = _; rw [elsIn, hq, h2]; rfl
          cases h3 : allIn 0 (p - 1) ys with
          | false =>
            rw [h3, Bool.false_and] at hr
            subst hr
            have HY : Hid (elsIn p ys = false) := by show _ = _; rw [elsIn, hq, h3]; rfl
            clear hq h2 h3 lx ly
            go_enter Try.func50, Try.ntmps50
            go_wp2_with fail
            refine (areElements_any p A n c xs true _ hp hx hn HX.out).mono ?_
            rintro e w' ⟨rfl, rfl⟩
            go_wp2_with fail
            refine (areElements_any p B n d ys false _ hp hy hm HY.out).mono ?_
            rintro e w' ⟨rfl, rfl⟩
            go_wp2_with fail
            go_ret
            exact ⟨rfl, rfl⟩
          | true =>
            rw [h3, Bool.true_and] at hr
            have HY : Hid (elsIn p ys = true) := by show _ = _; rw [elsIn, hq, h3]; rfl
            have HD : Hid (decide (DiffTo xs n) = r) := by
              show _ = _
              rw [← hr]
              exact decide_eq_decide.2 ⟨fun h => ⟨rfl, h, h12⟩, fun h => h.2.1⟩
            clear hr hq h2 h3 lx ly
            go_enter Try.func50, Try.ntmps50
            go_wp2_with fail
            refine (areElements_any p A n c xs true _ hp hx hn HX.out).mono ?_
            rintro e w' ⟨rfl, rfl⟩
            go_wp2_with fail
            refine (areElements_any p B n d ys true _ hp hy hm HY.out).mono ?_
            rintro e w' ⟨rfl, rfl⟩
            go_wp2_with fail
            refine (areDifferent_any A n c xs r _ hx hn hnc HD.out).mono ?_
            rintro e w' ⟨rfl, rfl⟩
            go_wp2_with fail
            go_ret
            exact ⟨rfl, rfl⟩
    · have hno : r = false := by
        rw [← hr, decide_eq_false (fun h => hmn h.1.symm)]
        simp
      subst hno
      have hne : ((m : Int) != (n : Int)) = true := by simp; omega
      clear hr lx ly
      go_enter Try.func50, Try.ntmps50
      go_wp2_with fail
      go_ret
      exact ⟨rfl, rfl⟩
  · have hno : r = false := by
      rw [← hr, decide_eq_false (fun h => h12 h.2.2)]
      simp
    subst hno
    clear hr lx ly
    go_enter Try.func50, Try.ntmps50
    go_wp2_with fail
    go_ret
    exact ⟨rfl, rfl⟩

end Go.Proofs.Ytkmnhdnifpglnaa
