/- What the model's draws of primes and elements of small fields yield: numbers within bounds; and of what was in memory they turn the reader alone. For every list of bytes. -/
import Derived.Test.YtkmnhdnifpglnaaCur2
import Derived.Test.YtkmnhdnifpglnaaFld3
namespace Go.Proofs.Ytkmnhdnifpglnaa
open Go.RowKit

theorem amongNew (A : Option Addr) (g n c K : Nat) (bs : List Int) (vs : Array Value) (zs : List Int) (k : Nat) (w : World) (h : Cur w g A n c bs K) (hl : zs.length = k) (hv : vs.toList = vals zs) (hk : 0 < k) (hk2 : k ≤ 1000) (hK : K ≤ 1073741824) :
    Calls Try.prog 45 #[.pointer (some ⟨g, 0, none⟩), .slice (some ⟨w.heap.size, 0, none⟩) k k] (w.alloc (.cells vs 3)) fun e w' => ∃ z : Int, e = .returned (.int .i64 z) ∧ z ∈ zs ∧ Cur w' g A n c bs (K + 2) ∧ w.grownBy w' (some g) := by
  have hg := h.lt
  have hL := hasLit (w := w) (vs := vs) (zs := zs) (n := k) hl hv
  have hc := h.below (B := w.heap.size) hg ((Below.refl _ _).alloc (Nat.le_refl _) (.cells vs 3))
  refine (among_any A g n c K bs _ k k zs _ hc hL (fun _ ad e => by injection e with e; subst e; show w.heap.size ≠ g; omega) hk (by omega) hK).mono ?_
  rintro e w' ⟨z, he, hz, hc', hg'⟩
  exact ⟨z, he, hz, hc', (grownOf ((Below.refl _ _).alloc (Nat.le_refl _) (.cells vs 3)) (some g)).trans hg'⟩

theorem most_any (a b : Int) (w : World) : Calls Try.prog 71 #[.int .i64 a, .int .i64 b] w fun e w' => ∃ x : Int, e = .returned (.int .i64 x) ∧ (x = a ∨ x = b) ∧ w = w' := by
  by_cases h : b < a
  · go_enter Try.func71, Try.ntmps71
    go_wp2
    go_ret
    exact ⟨a, rfl, .inl rfl, rfl⟩
  · go_enter Try.func71, Try.ntmps71
    go_wp2
    go_ret
    exact ⟨b, rfl, .inr rfl, rfl⟩

set_option maxHeartbeats 1000000 in
theorem prime_any (A : Option Addr) (g n c K : Nat) (bs : List Int) (w : World) (h : Cur w g A n c bs K) (hK : K ≤ 1073741824) :
    Calls Try.prog 70 #[.pointer (some ⟨g, 0, none⟩)] w fun e w' => ∃ z : Int, e = .returned (.int .i64 z) ∧ -300 ≤ z ∧ z ≤ 300 ∧ Cur w' g A n c bs (K + 2) ∧ w.grownBy w' (some g) := by
  go_enter Try.func70, Try.ntmps70
  go_wp2_with fail
  refine (amongNew A g n c K bs _ [2, 3, 5, 7, 7, 11, 13, 13, 17, 31, 97, 251] 12 w h rfl rfl (by omega) (by omega) hK).mono ?_
  rintro e w1 ⟨z, rfl, hz, hc1, hg1⟩
  have hzb : -300 ≤ z ∧ z ≤ 300 := by simp at hz; omega
  go_wp2_with fail
  go_ret
  exact ⟨z, rfl, hzb.1, hzb.2, hc1, hg1⟩

set_option maxHeartbeats 1000000 in
theorem anyPrime_any (A : Option Addr) (g n c K : Nat) (bs : List Int) (w : World) (h : Cur w g A n c bs K) (hK : K ≤ 536870912) :
    Calls Try.prog 43 #[.pointer (some ⟨g, 0, none⟩)] w fun e w' => ∃ z : Int, e = .returned (.int .i64 z) ∧ -300 ≤ z ∧ z ≤ 300 ∧ Cur w' g A n c bs (K + 4) ∧ w.grownBy w' (some g) := by
  go_enter Try.func43, Try.ntmps43
  go_wp2_with fail
  refine (one_any A g n c K bs 16 w h (by omega) (by omega) (by omega)).mono ?_
  rintro e w1 ⟨b, rfl, hc1, hg1⟩
  cases b with
  | true =>
    go_wp2_with fail
    refine (amongNew A g n c (K + 2) bs _ [0, 1, 4, 9, 49, 249, 257, -7] 8 w1 hc1 rfl rfl (by omega) (by omega) (by omega)).mono ?_
    rintro e w2 ⟨z, rfl, hz, hc2, hg2⟩
    have hzb : -300 ≤ z ∧ z ≤ 300 := by simp at hz; omega
    go_wp2_with fail
    go_ret
    exact ⟨z, rfl, hzb.1, hzb.2, hc2, hg1.trans hg2⟩
  | false =>
    go_wp2_with fail
    refine (prime_any A g n c (K + 2) bs w1 hc1 (by omega)).mono ?_
    rintro e w2 ⟨z, rfl, z0, z1, hc2, hg2⟩
    go_wp2_with fail
    go_ret
    exact ⟨z, rfl, z0, z1, hc2, hg1.trans hg2⟩

set_option maxHeartbeats 1000000 in
theorem element_any (A : Option Addr) (g n c K : Nat) (bs : List Int) (p : Int) (w : World) (h : Cur w g A n c bs K) (hK : K ≤ 536870912) (p0 : -300 ≤ p) (p1 : p ≤ 300) :
    Calls Try.prog 44 #[.pointer (some ⟨g, 0, none⟩), .int .i64 p] w fun e w' => ∃ z : Int, e = .returned (.int .i64 z) ∧ -300 ≤ z ∧ z ≤ 300 ∧ Cur w' g A n c bs (K + 4) ∧ w.grownBy w' (some g) := by
  go_enter Try.func44, Try.ntmps44
  go_wp2_with fail
  refine (one_any A g n c K bs 30 w h (by omega) (by omega) (by omega)).mono ?_
  rintro e w1 ⟨b, rfl, hc1, hg1⟩
  cases b with
  | true =>
    go_wp2_with fail
    refine (amongNew A g n c (K + 2) bs _ [-1, p] 2 w1 hc1 rfl rfl (by omega) (by omega) (by omega)).mono ?_
    rintro e w2 ⟨z, rfl, hz, hc2, hg2⟩
    have hzb : -300 ≤ z ∧ z ≤ 300 := by simp at hz; omega
    go_wp2_with fail
    go_ret
    exact ⟨z, rfl, hzb.1, hzb.2, hc2, hg1.trans hg2⟩
  | false =>
    go_wp2_with fail
    refine (most_any p 1 w1).mono ?_
    rintro e w' ⟨x, rfl, hx, rfl⟩
    have hxb : -300 ≤ x ∧ x ≤ 300 := by omega
    go_wp2_with fail
    refine (pick_any A g n c (K + 2) bs x w1 hc1 (by omega) (by omega) (by omega)).mono ?_
    rintro e w2 ⟨z, rfl, z0, z1, hc2, hg2⟩
    go_wp2_with fail
    go_ret
    exact ⟨z, rfl, by omega, by omega, hc2, hg1.trans hg2⟩

/-- A drawn prime (mostly), and elements (mostly). -/
def Draw3 (w w' : World) (e : Ending) : Prop := ∃ p a b : Int, e = .returned (.tuple #[.int .i64 p, .int .i64 a, .int .i64 b]) ∧ I64 p ∧ I64 a ∧ I64 b ∧ Below w.heap.size w w'
def Draw2 (w w' : World) (e : Ending) : Prop := ∃ p a : Int, e = .returned (.tuple #[.int .i64 p, .int .i64 a]) ∧ I64 p ∧ I64 a ∧ Below w.heap.size w w'
theorem i64Small {x : Int} (h0 : -1000300 ≤ x) (h1 : x ≤ 1000300) : I64 x := ⟨by omega, by omega⟩

set_option maxHeartbeats 1000000 in
theorem DrawAddMod_any (A : Option Addr) (n c : Nat) (bs : List Int) (w : World) (h : HasB w A n bs) : Calls Try.prog 17 #[.slice A n c] w fun e w' => Draw3 w w' e := by
  have hc := curNew c h
  go_enter Try.func17, Try.ntmps17
  go_wp2_with fail
  refine (anyPrime_any A w.heap.size n c 0 bs _ hc (by omega)).mono ?_
  rintro e w1 ⟨p, rfl, p0, p1, hc1, hg1⟩
  go_wp2_with fail
  refine (element_any A w.heap.size n c (0 + 4) bs p w1 hc1 (by omega) p0 p1).mono ?_
  rintro e w2 ⟨a, rfl, a0, a1, hc2, hg2⟩
  go_wp2_with fail
  refine (element_any A w.heap.size n c (0 + 4 + 4) bs p w2 hc2 (by omega) p0 p1).mono ?_
  rintro e w3 ⟨b, rfl, b0, b1, hc3, hg3⟩
  go_wp2_with fail
  go_ret3
  exact ⟨p, a, b, rfl, i64Small (by omega) (by omega), i64Small (by omega) (by omega), i64Small (by omega) (by omega), belowCur ((hg1.trans hg2).trans hg3)⟩

set_option maxHeartbeats 1000000 in
theorem DrawDivideMod_any (A : Option Addr) (n c : Nat) (bs : List Int) (w : World) (h : HasB w A n bs) : Calls Try.prog 6 #[.slice A n c] w fun e w' => Draw3 w w' e := by
  go_enter Try.func6, Try.ntmps6
  go_wp2_with fail
  refine (DrawAddMod_any A n c bs w h).mono ?_
  rintro e w1 ⟨p, a, b, rfl, hp, ha, hb, h1⟩
  have HP := Lib.hid hp
  have HA := Lib.hid ha
  have HB := Lib.hid hb
  clear hp ha hb
  go_wp2_with fail
  go_ret3
  exact ⟨p, a, b, rfl, HP.out, HA.out, HB.out, h1⟩

set_option maxHeartbeats 1000000 in
theorem DrawInverseMod_any (A : Option Addr) (n c : Nat) (bs : List Int) (w : World) (h : HasB w A n bs) : Calls Try.prog 41 #[.slice A n c] w fun e w' => Draw2 w w' e := by
  have hc := curNew c h
  go_enter Try.func41, Try.ntmps41
  go_wp2_with fail
  refine (anyPrime_any A w.heap.size n c 0 bs _ hc (by omega)).mono ?_
  rintro e w1 ⟨p, rfl, p0, p1, hc1, hg1⟩
  go_wp2_with fail
  refine (element_any A w.heap.size n c (0 + 4) bs p w1 hc1 (by omega) p0 p1).mono ?_
  rintro e w2 ⟨a, rfl, a0, a1, hc2, hg2⟩
  go_wp2_with fail
  go_ret2
  exact ⟨p, a, rfl, i64Small (by omega) (by omega), i64Small (by omega) (by omega), belowCur (hg1.trans hg2)⟩

set_option maxHeartbeats 1000000 in
theorem DrawOrderMod_any (A : Option Addr) (n c : Nat) (bs : List Int) (w : World) (h : HasB w A n bs) : Calls Try.prog 13 #[.slice A n c] w fun e w' => Draw2 w w' e := by
  go_enter Try.func13, Try.ntmps13
  go_wp2_with fail
  refine (DrawInverseMod_any A n c bs w h).mono ?_
  rintro e w1 ⟨p, a, rfl, hp, ha, h1⟩
  have HP := Lib.hid hp
  have HA := Lib.hid ha
  clear hp ha
  go_wp2_with fail
  go_ret2
  exact ⟨p, a, rfl, HP.out, HA.out, h1⟩

set_option maxHeartbeats 1000000 in
theorem DrawPowMod_any (A : Option Addr) (n c : Nat) (bs : List Int) (w : World) (h : HasB w A n bs) : Calls Try.prog 21 #[.slice A n c] w fun e w' => Draw3 w w' e := by
  have hc := curNew c h
  go_enter Try.func21, Try.ntmps21
  go_wp2_with fail
  refine (anyPrime_any A w.heap.size n c 0 bs _ hc (by omega)).mono ?_
  rintro e w1 ⟨p, rfl, p0, p1, hc1, hg1⟩
  go_wp2_with fail
  refine (element_any A w.heap.size n c (0 + 4) bs p w1 hc1 (by omega) p0 p1).mono ?_
  rintro e w2 ⟨a, rfl, a0, a1, hc2, hg2⟩
  go_wp2_with fail
  refine (pick_any A w.heap.size n c (0 + 4 + 4) bs 300 w2 hc2 (by omega) (by omega) (by omega)).mono ?_
  rintro e w3 ⟨u, rfl, u0, u1, hc3, hg3⟩
  go_wp2_with fail
  refine (amongNew A w.heap.size n c (0 + 4 + 4 + 2) bs _ [0, 1, 2, 5, 1000000, 1000001, -1, u] 8 w3 hc3 rfl rfl (by omega) (by omega) (by omega)).mono ?_
  rintro e w4 ⟨z, rfl, hz, hc4, hg4⟩
  have hzb : -1000300 ≤ z ∧ z ≤ 1000300 := by simp at hz; omega
  go_wp2_with fail
  go_ret3
  exact ⟨p, a, z, rfl, i64Small (by omega) (by omega), i64Small (by omega) (by omega), i64Small hzb.1 hzb.2, belowCur (((hg1.trans hg2).trans hg3).trans hg4)⟩

end Go.Proofs.Ytkmnhdnifpglnaa
