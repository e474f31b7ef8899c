/- What the model's draws for polynomials and equations yield: numbers and lists within bounds; and nothing that was in memory turns. For every list of bytes. -/
import Derived.Test.YtkmnhdnifpglnaaCur4
namespace Go.Proofs.Ytkmnhdnifpglnaa
open Go.RowKit

def DrawPLI (w w' : World) (e : Ending) : Prop := ∃ (p : Int) (R : Option Addr) (k c : Nat) (x : Int), e = .returned (.tuple #[.int .i64 p, .slice R k c, .int .i64 x]) ∧ I64 p ∧ I64 x ∧ k ≤ 100 ∧ Below w.heap.size w w' ∧ ∃ zs, Own w' w.heap.size R k c zs
def DrawPLL (w w' : World) (e : Ending) : Prop := ∃ (p : Int) (R : Option Addr) (k c : Nat) (R' : Option Addr) (k' c' : Nat), e = .returned (.tuple #[.int .i64 p, .slice R k c, .slice R' k' c']) ∧ I64 p ∧ k ≤ 100 ∧ k' ≤ 100 ∧ Below w.heap.size w w' ∧ (∃ xs, Own w' w.heap.size R k c xs) ∧ ∃ ys, Own w' w.heap.size R' k' c' ys
def DrawPLLI (w w' : World) (e : Ending) : Prop := ∃ (p : Int) (R : Option Addr) (k c : Nat) (R' : Option Addr) (k' c' : Nat) (x : Int), e = .returned (.tuple #[.int .i64 p, .slice R k c, .slice R' k' c', .int .i64 x]) ∧ I64 p ∧ I64 x ∧ k ≤ 100 ∧ k' ≤ 100 ∧ Below w.heap.size w w' ∧ (∃ xs, Own w' w.heap.size R k c xs) ∧ ∃ ys, Own w' w.heap.size R' k' c' ys

set_option maxHeartbeats 1000000 in
theorem DrawEvalPoly_any (A : Option Addr) (n c : Nat) (bs : List Int) (w : World) (h : HasB w A n bs) : Calls Try.prog 34 #[.slice A n c] w fun e w' => DrawPLI w w' e := by
  have hc := curNew c h
  go_enter Try.func34, Try.ntmps34
  go_wp2_with fail
  refine (anyPrime_any A w.heap.size n c 0 bs _ hc (by omega)).mono ?_
  rintro e w1 ⟨p, rfl, p0, p1, hc1, hg1⟩
  go_wp2_with fail
  refine (pick_any A w.heap.size n c (0 + 4) bs 6 w1 hc1 (by omega) (by omega) (by omega)).mono ?_
  rintro e w2 ⟨k, rfl, k0, k1, hc2, hg2⟩
  have hk6 : k ≤ 6 := by omega
  clear k1
  go_wp2_with fail
  refine (one_any A w.heap.size n c (0 + 4 + 2) bs 20 w2 hc2 (by omega) (by omega) (by omega)).mono ?_
  rintro e w3 ⟨b, rfl, hc3, hg3⟩
  have hgg := (hg1.trans hg2).trans hg3
  cases b with
  | false =>
    go_wp2_with fail
    refine (elements_any A w.heap.size n c (0 + 4 + 2 + 2) bs p k w3 hc3 (by omega) p0 p1 (by omega) (by omega)).mono ?_
    rintro e w4 ⟨R, q, cR, rfl, hq, hc4, hg4, zs, ho⟩
    go_wp2_with fail
    refine (element_any A w.heap.size n c (0 + 4 + 2 + 2 + 400) bs p w4 hc4 (by omega) p0 p1).mono ?_
    rintro e w5 ⟨x, rfl, x0, x1, hc5, hg5⟩
    have hs := hgg.size
    simp only [World.size_alloc] at hs
    have ho5 : Own w5 w.heap.size R q cR zs := ⟨ho.1, ownStays (ho.2.mono (Nat.le_refl _)) hg5 (by omega) |>.mono (by omega)⟩
    go_wp2_with fail
    go_ret3
    exact ⟨p, R, q, cR, x, rfl, i64Small (by omega) (by omega), i64Small (by omega) (by omega), hq, belowCur ((hgg.trans hg4).trans hg5), zs, ho5⟩
  | true =>
    go_wp2_with fail
    refine (pick_any A w.heap.size n c (0 + 4 + 2 + 2) bs 2 w3 hc3 (by omega) (by omega) (by omega)).mono ?_
    rintro e w4 ⟨y, rfl, y0, y1, hc4, hg4⟩
    have hy1 : y ≤ 1 := by omega
    clear y1
    go_wp2_with fail
    refine (elements_any A w.heap.size n c (0 + 4 + 2 + 2 + 2) bs p (12 + y) w4 hc4 (by omega) p0 p1 (by omega) (by omega)).mono ?_
    rintro e w5 ⟨R, q, cR, rfl, hq, hc5, hg5, zs, ho⟩
    go_wp2_with fail
    refine (element_any A w.heap.size n c (0 + 4 + 2 + 2 + 2 + 400) bs p w5 hc5 (by omega) p0 p1).mono ?_
    rintro e w6 ⟨x, rfl, x0, x1, hc6, hg6⟩
    have hgg4 := hgg.trans hg4
    have hs := hgg4.size
    simp only [World.size_alloc] at hs
    have ho5 : Own w6 w.heap.size R q cR zs := ⟨ho.1, ownStays (ho.2.mono (Nat.le_refl _)) hg6 (by omega) |>.mono (by omega)⟩
    go_wp2_with fail
    go_ret3
    exact ⟨p, R, q, cR, x, rfl, i64Small (by omega) (by omega), i64Small (by omega) (by omega), hq, belowCur ((hgg4.trans hg5).trans hg6), zs, ho5⟩

set_option maxHeartbeats 1000000 in
theorem DrawPolyThrough_any (A : Option Addr) (n c : Nat) (bs : List Int) (w : World) (h : HasB w A n bs) : Calls Try.prog 23 #[.slice A n c] w fun e w' => DrawPLL w w' e := by
  have hc := curNew c h
  go_enter Try.func23, Try.ntmps23
  go_wp2_with fail
  refine (anyPrime_any A w.heap.size n c 0 bs _ hc (by omega)).mono ?_
  rintro e w1 ⟨p, rfl, p0, p1, hc1, hg1⟩
  go_wp2_with fail
  refine (points_any A w.heap.size n c (0 + 4) bs p w1 hc1 (by omega) p0 p1).mono ?_
  rintro e w2 ⟨R, k, c1, R', k', c2, rfl, hk, hk', hc2, hg2, ⟨xs, ho1⟩, ⟨ys, ho2⟩⟩
  have hs := hg1.size
  simp only [World.size_alloc] at hs
  go_wp2_with fail
  go_ret3
  exact ⟨p, R, k, c1, R', k', c2, rfl, i64Small (by omega) (by omega), hk, hk', belowCur (hg1.trans hg2), ⟨xs, ho1.mono (by omega)⟩, ⟨ys, ho2.mono (by omega)⟩⟩

set_option maxHeartbeats 1000000 in
theorem DrawInterpolateAt_any (A : Option Addr) (n c : Nat) (bs : List Int) (w : World) (h : HasB w A n bs) : Calls Try.prog 29 #[.slice A n c] w fun e w' => DrawPLLI w w' e := by
  have hc := curNew c h
  go_enter Try.func29, Try.ntmps29
  go_wp2_with fail
  refine (anyPrime_any A w.heap.size n c 0 bs _ hc (by omega)).mono ?_
  rintro e w1 ⟨p, rfl, p0, p1, hc1, hg1⟩
  go_wp2_with fail
  refine (points_any A w.heap.size n c (0 + 4) bs p w1 hc1 (by omega) p0 p1).mono ?_
  rintro e w2 ⟨R, k, c1, R', k', c2, rfl, hk, hk', hc2, hg2, ⟨xs, ho1⟩, ⟨ys, ho2⟩⟩
  have hs := hg1.size
  simp only [World.size_alloc] at hs
  have hs2 := hg2.size
  go_wp2_with fail
  refine (element_any A w.heap.size n c (0 + 4 + 1000) bs p w2 hc2 (by omega) p0 p1).mono ?_
  rintro e w3 ⟨x, rfl, x0, x1, hc3, hg3⟩
  have hx3 : Own w3 w.heap.size R k c1 xs := ⟨ho1.1, (ownStays ho1.2 hg3 (by omega)).mono (by omega)⟩
  have hy3 : Own w3 w.heap.size R' k' c2 ys := ⟨ho2.1, (ownStays ho2.2 hg3 (by omega)).mono (by omega)⟩
  go_wp2_with fail
  refine bodyPost_ret (results_tmp4 rfl _ _ _) rfl ?_
  exact ⟨p, R, k, c1, R', k', c2, x, rfl, i64Small (by omega) (by omega), i64Small (by omega) (by omega), hk, hk', belowCur ((hg1.trans hg2).trans hg3), ⟨xs, hx3⟩, ⟨ys, hy3⟩⟩

end Go.Proofs.Ytkmnhdnifpglnaa
