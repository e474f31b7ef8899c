/- The comparison of two circuits that read alike, and the marks in a circuit, in the exact laws. For lists of at most 1048576 elements. -/
import Derived.Test.YtaohgbkhmgfnhaaDoorCir3
namespace Go.Proofs.YtaohgbkhmgfnhaaDoor
open Go.RowKit
set_option maxRecDepth 100000

set_option maxHeartbeats 1000000 in
theorem eqCircuit_same (v v' : Value) (C : Ci) (w : World) (h : HasC w v C) (h' : HasC w v' C) (hn : C.gs.length ≤ 1048576) (hm : C.os.length ≤ 1048576) :
    Calls Tryd.prog 8 #[v, v'] w fun e w' => e = .returned (.bool true) ∧ Below w.heap.size w w' := by
  obtain ⟨G, n, c, O, m, d, rfl, hG, hO, _, _, _, _⟩ := h
  obtain ⟨G', n', c', O', m', d', rfl, hG', hO', _, _, _, _⟩ := h'
  have hgl := hG.1
  have hol := hO.1
  obtain ⟨x, y, gs, os⟩ := C
  show Calls Tryd.prog 8 #[.agg #[.int .i64 x, .int .i64 y, .slice G n c, .slice O m d], .agg #[.int .i64 x, .int .i64 y, .slice G' n' c', .slice O' m' d']] w _
  simp only at hgl hol hn hm hG hO hG' hO'
  obtain ⟨W1, hW1⟩ : ∃ W, W = w.alloc (.cells #[.int .i64 x, .int .i64 y, .slice G n c, .slice O m d] 31) := ⟨_, rfl⟩
  obtain ⟨W2, hW2⟩ : ∃ W, W = W1.alloc (.cells #[.int .i64 x, .int .i64 y, .slice G' n' c', .slice O' m' d'] 31) := ⟨_, rfl⟩
  have s1 : W1.heap.size = w.heap.size + 1 := by rw [hW1]; simp
  have p0 : Blk W2 w.heap.size #[.int .i64 x, .int .i64 y, .slice G n c, .slice O m d] 31 := by rw [hW2, hW1]; exact (Blk.new _ _ _).alloc _
  have p1 : Blk W2 (w.heap.size + 1) #[.int .i64 x, .int .i64 y, .slice G' n' c', .slice O' m' d'] 31 := by rw [hW2]; exact Blk.newAt _ _ _ s1.symm
  have B2 : Below w.heap.size w W2 := by rw [hW2, hW1]; exact ((Below.refl _ w).alloc (Nat.le_refl _) _).alloc (by simp) _
  have HG := hG.below B2
  have HO := hO.below B2
  have HG' := hG'.below B2
  have HO' := hO'.below B2
  go_enter Tryd.func8, Tryd.ntmps8
  go_wp2_with fail
  rw [← hW1, ← hW2]
  clear hW1 hW2
  refine (eqGateS_same G G' n n' c c' gs W2 HG HG' (by omega)).mono ?_
  rintro e w1 ⟨rfl, b1⟩
  have q0 := (p0.below' b1).cell (i := 3) rfl
  have q1 := (p1.below' b1).cell (i := 3) rfl
  have B3 := B2.trans (b1.mono B2.size)
  have HO3 := HO.below b1
  have HO3' := HO'.below b1
  clear p0 p1 b1 B2 HO HO' HG HG' hG hG' hO hO'
  go_wp2_with fail
  refine (eqIntS_same O O' m m' d d' os w1 HO3 HO3' (by omega)).mono ?_
  rintro e w2 ⟨rfl, b2⟩
  have B4 := B3.trans (b2.mono B3.size)
  go_wp2_with fail
  go_ret
  exact ⟨rfl, B4⟩

/-- The marks from m on in the cells of a circuit's lists. -/
def markC (C : Ci) (m : Int) : Ci := ⟨C.in0, C.in1, gmarks m C.gs.length, marks (m + 3 * (C.gs.length : Int)) C.os.length⟩
/-- How many cells a circuit's lists have. -/
def sizeC (C : Ci) : Int := 3 * (C.gs.length : Int) + (C.os.length : Int)

end Go.Proofs.YtaohgbkhmgfnhaaDoor
