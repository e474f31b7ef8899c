/- What the tests of chapter 2 do: whether a number is a prime up to 251, and whether all of a list are elements of its field, the program's and the model's. For slices of at most 16777216 elements. -/
import Derived.Test.YtkmnhdnifpglnaaFldMath
namespace Go.Proofs.Ytkmnhdnifpglnaa
open Go.RowKit

theorem sq16 {k : Nat} (h : k ≤ 16) : 0 ≤ (k : Int) * (k : Int) ∧ (k : Int) * (k : Int) ≤ 256 := by
  have h1 : (0 : Int) ≤ k := by omega
  have h2 : (k : Int) ≤ 16 := by omega
  exact ⟨Int.mul_nonneg h1 h1, by have := Int.mul_le_mul h2 h2 h1 (by omega); omega⟩
theorem primeB_mk {p : Int} {k : Nat} (h2 : 2 ≤ p) (h251 : p ≤ 251) (hk : ¬ (k : Int) * k ≤ p) (h : ∀ d : Nat, d < k → 2 ≤ d → p % d ≠ 0) : primeB p = true := by
  refine decide_eq_true ⟨h2, h251, fun d _ hd hle => ?_⟩
  refine h d ?_ hd
  refine Nat.lt_of_not_le fun hkd => hk ?_
  have h1 : (k : Int) ≤ d := by omega
  have := Int.mul_le_mul h1 h1 (by omega) (by omega)
  omega
theorem primeB_no {p : Int} {k : Nat} (hk : 2 ≤ k) (hk16 : k < 16) (hle : (k : Int) * k ≤ p) (h : p % k = 0) : primeB p = false := by
  refine decide_eq_false fun hp => hp.2.2 k hk16 hk hle h
theorem lt16 {p : Int} {k : Nat} (h : p ≤ 251) (hle : (k : Int) * k ≤ p) : k < 16 := by
  refine Nat.lt_of_not_le fun h1 => ?_
  have h2 : (16 : Int) ≤ k := by omega
  have := Int.mul_le_mul h2 h2 (by omega) (by omega)
  omega
theorem tmodPos {a b : Int} (ha : 0 ≤ a) : a.tmod b = a % b := Int.tmod_eq_emod_of_nonneg ha

set_option maxHeartbeats 1000000 in
theorem fpGood_any (p : Int) (r : Bool) (w : World) (_hp : I64 p) (hm : primeB p = r) :
    Calls Try.prog 40 #[.int .i64 p] w fun e w' => e = .returned (.bool r) ∧ w = w' := by
  by_cases hr : 2 ≤ p ∧ p ≤ 251
  · obtain ⟨h2, h251⟩ := hr
    have HM := Lib.hid hm
    clear hm
    go_enter Try.func40, Try.ntmps40
    go_wp2_with (go_at_call 47; refine (l1In_any p 2 251 true _ (by simp; omega)).mono ?_; rintro e w' ⟨rfl, rfl⟩)
    go_loop [3] (fun i => ∃ k : Nat, 2 ≤ k ∧ k ≤ 16 ∧ i = .int .i64 k ∧ Hid (∀ d : Nat, d < k → 2 ≤ d → p % d ≠ 0)) (fun i => 16 - (intOf i).toNat)
    case atStart => exact ⟨2, by omega, by omega, rfl, fun d h1 h2 => by omega⟩
    case round =>
      obtain ⟨k, hk2, hk, rfl, HIN⟩ := hrel
      obtain ⟨q0, q1⟩ := sq16 hk
      by_cases hle : (k : Int) * k ≤ p
      · have hlt := lt16 h251 hle
        have tm := tmodPos (a := p) (b := k) (by omega)
        by_cases hz : p % (k : Int) = 0
        · go_wp2
          go_ret
          refine ⟨?_, rfl⟩
          have e := HM.out
          rw [primeB_no hk2 hlt hle hz] at e
          subst e
          rfl
        · go_wp2
          go_round
          case rel =>
            refine ⟨k + 1, by omega, by omega, by go_num, fun d hd h2 => ?_⟩
            by_cases e : d = k
            · rw [e]; exact hz
            · exact HIN.out d (by omega) h2
          case measure => simp [intOf]; omega
      · go_wp2
        go_ret
        refine ⟨?_, rfl⟩
        have e := HM.out
        rw [primeB_mk (k := k) h2 h251 (by omega) HIN.out] at e
        subst e
        rfl
  · obtain rfl : r = false := by rw [← hm]; exact decide_eq_false fun h => hr ⟨h.1, h.2.1⟩
    have HR := Lib.hid hr
    clear hr hm
    go_enter Try.func40, Try.ntmps40
    go_wp2_with (go_at_call 47; refine (l1In_any p 2 251 false _ (by have := HR.out; simp; omega)).mono ?_; rintro e w' ⟨rfl, rfl⟩)
    go_ret
    exact ⟨rfl, rfl⟩

set_option maxHeartbeats 1000000 in
theorem implIsPrime (p : Int) (r : Bool) (w : World) (_hp : I64 p) (hm : primeB p = r) :
    Calls Try.prog 9 #[.int .i64 p] w fun e w' => e = .returned (.bool r) ∧ w = w' := by
  by_cases hr : 2 ≤ p ∧ p ≤ 251
  · obtain ⟨h2, h251⟩ := hr
    have HM := Lib.hid hm
    clear hm
    go_enter Try.func9, Try.ntmps9
    go_wp2
    go_loop [3] (fun i => ∃ k : Nat, 2 ≤ k ∧ k ≤ 16 ∧ i = .int .i64 k ∧ Hid (∀ d : Nat, d < k → 2 ≤ d → p % d ≠ 0)) (fun i => 16 - (intOf i).toNat)
    case atStart => exact ⟨2, by omega, by omega, rfl, fun d h1 h2 => by omega⟩
    case round =>
      obtain ⟨k, hk2, hk, rfl, HIN⟩ := hrel
      obtain ⟨q0, q1⟩ := sq16 hk
      by_cases hle : (k : Int) * k ≤ p
      · have hlt := lt16 h251 hle
        have tm := tmodPos (a := p) (b := k) (by omega)
        by_cases hz : p % (k : Int) = 0
        · go_wp2
          go_ret
          refine ⟨?_, rfl⟩
          have e := HM.out
          rw [primeB_no hk2 hlt hle hz] at e
          subst e
          rfl
        · go_wp2
          go_round
          case rel =>
            refine ⟨k + 1, by omega, by omega, by go_num, fun d hd h2 => ?_⟩
            by_cases e : d = k
            · rw [e]; exact hz
            · exact HIN.out d (by omega) h2
          case measure => simp [intOf]; omega
      · go_wp2
        go_ret
        refine ⟨?_, rfl⟩
        have e := HM.out
        rw [primeB_mk (k := k) h2 h251 (by omega) HIN.out] at e
        subst e
        rfl
  · obtain rfl : r = false := by rw [← hm]; exact decide_eq_false fun h => hr ⟨h.1, h.2.1⟩
    clear hm
    by_cases h2 : p < 2
    · clear hr
      go_enter Try.func9, Try.ntmps9
      go_wp2
      go_ret
      exact ⟨rfl, rfl⟩
    · have h3 : 251 < p := by omega
      have h4 : 2 ≤ p := by omega
      clear hr h2
      go_enter Try.func9, Try.ntmps9
      go_wp2
      go_ret
      exact ⟨rfl, rfl⟩

def m_IsPrime (p : Int) : Bool := primeB p
theorem spec_IsPrime (p : Int) (r : Bool) (w : World) (hp : I64 p) (hm : m_IsPrime p = r) :
    Calls Try.prog 10 #[.int .i64 p] w fun e w' => e = .returned (.bool r) ∧ Below w.heap.size w w' := by
  have HM := Lib.hid hm
  clear hm
  go_enter Try.func10, Try.ntmps10
  go_wp2_with (go_at_call 40; refine (fpGood_any p r _ hp HM.out).mono ?_; rintro e w' ⟨rfl, rfl⟩)
  go_ret
  exact ⟨rfl, Below.refl _ _⟩
theorem impl_IsPrime (p : Int) (r : Bool) (w : World) (hp : I64 p) (hm : m_IsPrime p = r) :
    Calls Try.prog 9 #[.int .i64 p] w fun e w' => e = .returned (.bool r) ∧ Below w.heap.size w w' :=
  (implIsPrime p r w hp hm).mono fun _ _ ⟨he, hw⟩ => ⟨he, hw ▸ Below.refl _ _⟩

/-- All of zs are elements of the field of p. -/
def elsIn (p : Int) (zs : List Int) : Bool := primeB p && allIn 0 (p - 1) zs
theorem elsIn_yes {p : Int} {zs : List Int} (h : elsIn p zs = true) : primeB p = true ∧ ∀ k, k < zs.length → 0 ≤ zs.getD k 0 ∧ zs.getD k 0 < p := by
  unfold elsIn at h
  rw [Bool.and_eq_true] at h
  refine ⟨h.1, fun k hk => ?_⟩
  have := allIn_yes h.2 k hk
  omega
theorem elsIn_mk {p : Int} {zs : List Int} (hp : primeB p = true) (h : ∀ k, k < zs.length → 0 ≤ zs.getD k 0 ∧ zs.getD k 0 < p) : elsIn p zs = true := by
  unfold elsIn
  rw [Bool.and_eq_true]
  exact ⟨hp, allIn_mk fun k hk => by have := h k hk; omega⟩

set_option maxHeartbeats 1000000 in
theorem fpIn_any (p : Int) (A : Option Addr) (n c : Nat) (zs : List Int) (r : Bool) (w : World) (hp : I64 p) (h : Has w A n zs) (hn : n ≤ 16777216) (hm : elsIn p zs = r) :
    Calls Try.prog 38 #[.int .i64 p, .slice A n c] w fun e w' => e = .returned (.bool r) ∧ w = w' := by
  unfold elsIn at hm
  cases hq : primeB p with
  | false =>
    rw [hq, Bool.false_and] at hm
    subst hm
    have HQ := Lib.hid hq
    clear hq
    go_enter Try.func38, Try.ntmps38
    go_wp2_with (go_at_call 40; refine (fpGood_any p false _ hp HQ.out).mono ?_; rintro e w' ⟨rfl, rfl⟩)
    go_ret
    exact ⟨rfl, rfl⟩
  | true =>
    rw [hq, Bool.true_and] at hm
    obtain ⟨p2, p251⟩ := primeB_yes hq
    have HQ := Lib.hid hq
    have HM := Lib.hid hm
    clear hq hm
    go_enter Try.func38, Try.ntmps38
    go_wp2_with (first | (go_at_call 40; refine (fpGood_any p true _ hp HQ.out).mono ?_; rintro e w' ⟨rfl, rfl⟩) | (go_at_call 68; refine (l1All_any A n c zs 0 (p - 1) r _ h hn HM.out).mono ?_; rintro e w' ⟨rfl, rfl⟩))
    go_ret
    exact ⟨rfl, rfl⟩

set_option maxHeartbeats 1000000 in
theorem areElements_any (p : Int) (A : Option Addr) (n c : Nat) (zs : List Int) (r : Bool) (w : World) (hp : I64 p) (h : Has w A n zs) (hn : n ≤ 16777216) (hm : elsIn p zs = r) :
    Calls Try.prog 36 #[.int .i64 p, .slice A n c] w fun e w' => e = .returned (.bool r) ∧ w = w' := by
  have HM := Lib.hid hm
  have hl := Lib.hid h.1
  clear hm
  cases hq : primeB p with
  | false =>
    have HQ := Lib.hid hq
    clear hq
    go_enter Try.func36, Try.ntmps36
    go_wp2_with (go_at_call 9; refine (implIsPrime p false _ hp HQ.out).mono ?_; rintro e w' ⟨rfl, rfl⟩)
    go_ret
    have e := HM.out
    rw [elsIn, HQ.out, Bool.false_and] at e
    subst e
    exact ⟨rfl, rfl⟩
  | true =>
    obtain ⟨p2, p251⟩ := primeB_yes hq
    have HQ := Lib.hid hq
    clear hq
    go_enter Try.func36, Try.ntmps36
    go_wp2_with (go_at_call 9; refine (implIsPrime p true _ hp HQ.out).mono ?_; rintro e w' ⟨rfl, rfl⟩)
    go_loop [12] (fun i => ∃ k : Nat, k ≤ n ∧ i = .int .i64 k ∧ Hid (∀ j, j < k → 0 ≤ zs.getD j 0 ∧ zs.getD j 0 < p)) (fun i => n - (intOf i).toNat)
    case atStart => exact ⟨0, Nat.zero_le _, rfl, fun j hj => absurd hj (by omega)⟩
    case round =>
      obtain ⟨k, hk, rfl, HIN⟩ := hrel
      by_cases hlt : k < n
      · obtain ⟨ad, z, rfl, hc, HZ⟩ := h.elem hlt
        by_cases hz : 0 ≤ z ∧ z < p
        · obtain ⟨z0, z1⟩ := hz
          go_wp2
          go_round
          case rel =>
            refine ⟨k + 1, by omega, by go_num, fun j hj => ?_⟩
            by_cases e : j = k
            · rw [e, ← HZ.out]; exact ⟨z0, z1⟩
            · exact HIN.out j (by omega)
          case measure => simp [intOf]; omega
        · have hno : r = false := by
            cases r with
            | false => rfl
            | true =>
              have := (elsIn_yes HM.out).2 k (by rw [hl.out]; exact hlt)
              rw [← HZ.out] at this
              exact absurd this hz
          subst hno
          by_cases z0 : z < 0
          · clear hz
            go_wp2
            go_ret
            exact ⟨rfl, rfl⟩
          · have z1 : 0 ≤ z := by omega
            have z2 : p ≤ z := by omega
            clear hz z0
            go_wp2
            go_ret
            exact ⟨rfl, rfl⟩
      · obtain rfl : k = n := by omega
        go_wp2
        go_ret
        have e := HM.out
        rw [elsIn_mk HQ.out (by rw [hl.out]; exact HIN.out)] at e
        subst e
        exact ⟨rfl, rfl⟩

/-- A list that was just laid. -/
theorem hasNew (w : World) (zs : List Int) (e : Nat) : Has (w.alloc (.cells (zs.map (Value.int .i64)).toArray e)) (some ⟨w.heap.size, 0, none⟩) zs.length zs := by
  refine ⟨rfl, fun hn => ⟨_, rfl, by rw [World.size_alloc]; exact Nat.lt_succ_self _, fun k hk => ?_⟩⟩
  have e : (⟨w.heap.size, 0, none⟩ : Addr).add k = ⟨w.heap.size, k, none⟩ := by simp [Addr.add]; omega
  rw [e, World.cell?_alloc_new]
  simp [hk]
theorem belowNew (w : World) (o : Obj) : Below w.heap.size w (w.alloc o) := (Below.refl _ _).alloc (Nat.le_refl _) _

end Go.Proofs.Ytkmnhdnifpglnaa
