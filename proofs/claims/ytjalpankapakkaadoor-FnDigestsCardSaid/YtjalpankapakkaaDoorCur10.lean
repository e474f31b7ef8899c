/- What the model's draw of four numbers yields. For every list of bytes. -/
import Derived.Test.YtjalpankapakkaaDoorCur7
namespace Go.Proofs.YtjalpankapakkaaDoor
open Go.RowKit

theorem below_drew {B : Nat} {a w : World} (h : Below B a w) : Below B a w.drew := ⟨h.os, h.tape, h.output, h.size, h.block⟩

theorem results4 {fn : Func} {t u v x : Tmp} (h : fn.results = #[.tmp t, .tmp u, .tmp v, .tmp x]) (tmps : Array Value) (P : Program) (w : World) :
    (results fn tmps).run P w = .ok (.tuple #[tmps.getD t undef, tmps.getD u undef, tmps.getD v undef, tmps.getD x undef]) w := by
  simp [results, h]

/-- Four numbers that came out of the reader. -/
def FourInts (w w' : World) (e : Ending) : Prop := ∃ x y z u : Int, e = .returned (.tuple #[.int .i64 x, .int .i64 y, .int .i64 z, .int .i64 u]) ∧ I64 x ∧ I64 y ∧ I64 z ∧ I64 u ∧ Below w.heap.size w w'

set_option maxHeartbeats 2000000 in
theorem DrawLabelFor_any (A : Option Addr) (n c : Nat) (bs : List Int) (w : World) (h : HasB w A n bs) : Calls Tryd.prog 23 #[.slice A n c] w fun e w' => FourInts w w' e := by
  have hc := curNew c h
  go_enter Tryd.func23, Tryd.ntmps23
  go_wp2_with fail
  refine (pick_any A w.heap.size n c 0 bs 60000 _ hc (by omega) (by omega) (by omega)).mono ?_
  rintro e w1 ⟨a, rfl, a0, a1, hc1, hg1⟩
  go_wp2_with fail
  refine (pick_any A w.heap.size n c (0 + 2) bs 99 _ hc1 (by omega) (by omega) (by omega)).mono ?_
  rintro e w2 ⟨y, rfl, y0, y1, hc2, hg2⟩
  go_wp2_with fail
  refine (amongLit A w.heap.size n c (0 + 2 + 2) bs _ [0, 1, -1000000000, 1000000001, y] 5 w2 hc2 rfl rfl (by omega) (by omega) (by omega)).mono ?_
  rintro e w3 ⟨b, rfl, hb, hc3, hg3⟩
  have hbb : -2000000000 ≤ b ∧ b ≤ 2000000000 := by simp at hb; omega
  obtain ⟨b0, b1⟩ := hbb
  clear hb
  go_wp2_with fail
  refine (pick_any A w.heap.size n c (0 + 2 + 2 + 2) bs 60000 _ hc3 (by omega) (by omega) (by omega)).mono ?_
  rintro e w4 ⟨d, rfl, d0, d1, hc4, hg4⟩
  go_wp2_with fail
  refine (pick_any A w.heap.size n c (0 + 2 + 2 + 2 + 2) bs 60000 _ hc4 (by omega) (by omega) (by omega)).mono ?_
  rintro e w5 ⟨f, rfl, f0, f1, hc5, hg5⟩
  have G5 := (((hg1.trans hg2).trans hg3).trans hg4).trans hg5
  have S5 : w.heap.size < w5.heap.size := by have := G5.size; simp at this; omega
  clear hc1 hc2 hc3 hc4 hg1 hg2 hg3 hg4 hg5 hc
  have hc6 := hc5.below (B := w5.heap.size) S5 (belowNew w5 (.cells #[.int .i64 a, .int .i64 b, .int .i64 d, .int .i64 f] 3))
  have own6 : Own (w5.alloc (.cells #[.int .i64 a, .int .i64 b, .int .i64 d, .int .i64 f] 3)) w5.heap.size (some ⟨w5.heap.size, 0, none⟩) 4 4 [a, b, d, f] := ⟨rfl, World.ownsRow_lit w5 #[.int .i64 a, .int .i64 b, .int .i64 d, .int .i64 f] 4 (Nat.le_refl _) (by decide) rfl⟩
  have G6 := grownThen G5 ((belowNew w5 (.cells #[.int .i64 a, .int .i64 b, .int .i64 d, .int .i64 f] 3)).mono (by have := G5.size; simp at this ⊢; omega))
  have HI : Hid (∀ k, k < 4 → -2000000000 ≤ [a, b, d, f].getD k 0 ∧ [a, b, d, f].getD k 0 ≤ 2000000000) := by
    intro k hk
    rcases (by omega : k = 0 ∨ k = 1 ∨ k = 2 ∨ k = 3) with rfl | rfl | rfl | rfl <;> simp <;> omega
  go_wp2_with fail
  refine (one_any A w.heap.size n c (0 + 2 + 2 + 2 + 2 + 2) bs 12 _ hc6 (by omega) (by omega) (by omega)).mono ?_
  rintro e w7 ⟨t, rfl, hc7, hg7⟩
  have own7 := own6.turned hg7 S5
  have G7 := G6.trans hg7
  clear hc6 own6 G6 hg7 G5 hc5
  cases t with
  | false =>
    obtain ⟨i0, i1⟩ := HI.out 0 (by omega)
    obtain ⟨j0, j1⟩ := HI.out 1 (by omega)
    obtain ⟨k0, k1⟩ := HI.out 2 (by omega)
    obtain ⟨l0, l1⟩ := HI.out 3 (by omega)
    have e0 := own7.cellR (k := 0) (by omega)
    have e1 := own7.cellR (k := 1) (by omega)
    have e2 := own7.cellR (k := 2) (by omega)
    have e3 := own7.cellR (k := 3) (by omega)
    generalize [a, b, d, f].getD 0 0 = p0 at *
    generalize [a, b, d, f].getD 1 0 = p1 at *
    generalize [a, b, d, f].getD 2 0 = p2 at *
    generalize [a, b, d, f].getD 3 0 = p3 at *
    clear own7 HI
    go_wp2_with fail
    go_region
    go_wp2_with fail
    (try simp only [Exit.inBlock, Exit.then])
    refine bodyPost_ret (results4 rfl _ _ _) rfl ?_
    exact ⟨p0, p1, p2, p3, rfl, i64Word i0 i1, i64Word j0 j1, i64Word k0 k1, i64Word l0 l1, below_drew (belowCur G7)⟩
  | true =>
    go_wp2_with fail
    refine (pick_any A w.heap.size n c (0 + 2 + 2 + 2 + 2 + 2 + 2) bs 4 _ hc7 (by omega) (by omega) (by omega)).mono ?_
    rintro e w8 ⟨i, rfl, i0, i1, hc8, hg8⟩
    obtain ⟨i, rfl⟩ : ∃ j : Nat, i = (j : Int) := ⟨i.toNat, by omega⟩
    have hi4 : i < 4 := by omega
    go_wp2_with fail
    refine (amongLit A w.heap.size n c (0 + 2 + 2 + 2 + 2 + 2 + 2 + 2) bs _ [-1000000000, 1000000000, 1000000001, -1000000001] 4 w8 hc8 rfl rfl (by omega) (by omega) (by omega)).mono ?_
    rintro e w9 ⟨z, rfl, hz, hc9, hg9⟩
    have hzb : -2000000000 ≤ z ∧ z ≤ 2000000000 := by simp at hz; omega
    obtain ⟨z0, z1⟩ := hzb
    have own9 := (own7.turned hg8 S5).turned hg9 S5
    have G9 := (G7.trans hg8).trans hg9
    have hcx := own9.cellR hi4
    have hfx := own9.freeR i
    have own10 := own9.putR i z
    have HJ : Hid (∀ k, k < 4 → -2000000000 ≤ ([a, b, d, f].set i z).getD k 0 ∧ ([a, b, d, f].set i z).getD k 0 ≤ 2000000000) := by
      intro k hk
      have := HI.out k hk
      simp only [List.getD, List.getElem?_set] at this ⊢
      by_cases e : i = k
      · subst e; simp [hi4]; omega
      · simpa [e] using this
    obtain ⟨i0', i1'⟩ := HJ.out 0 (by omega)
    obtain ⟨j0, j1⟩ := HJ.out 1 (by omega)
    obtain ⟨k0, k1⟩ := HJ.out 2 (by omega)
    obtain ⟨l0, l1⟩ := HJ.out 3 (by omega)
    have e0 := own10.cellR (k := 0) (by omega)
    have e1 := own10.cellR (k := 1) (by omega)
    have e2 := own10.cellR (k := 2) (by omega)
    have e3 := own10.cellR (k := 3) (by omega)
    have B10 : Below w.heap.size w (w9.setCell ⟨w5.heap.size, i, none⟩ (.int .i64 z)) := (belowCur G9).setCell (by show w.heap.size ≤ w5.heap.size; omega) _
    generalize ([a, b, d, f].set i z).getD 0 0 = p0 at *
    generalize ([a, b, d, f].set i z).getD 1 0 = p1 at *
    generalize ([a, b, d, f].set i z).getD 2 0 = p2 at *
    generalize ([a, b, d, f].set i z).getD 3 0 = p3 at *
    generalize [a, b, d, f].getD i 0 = p at hcx
    have a0 : (0 : Int) ≤ (i : Int) := by omega
    have a1 : (i : Int) < 4 := by omega
    clear HI HJ own7 own9 own10 hz hc7 hc8 hc9 hg8 hg9 G7 G9
    go_wp2_with fail
    generalize w9.setCell ⟨w5.heap.size, i, none⟩ (.int .i64 z) = w10 at *
    go_region
    go_wp2_with fail
    (try simp only [Exit.inBlock, Exit.then])
    refine bodyPost_ret (results4 rfl _ _ _) rfl ?_
    exact ⟨p0, p1, p2, p3, rfl, i64Word i0' i1', i64Word j0 j1, i64Word k0 k1, i64Word l0 l1, below_drew B10⟩

end Go.Proofs.YtjalpankapakkaaDoor
