/- The comparison of two circuits that read alike, and the marks in a circuit, in the exact laws. For lists of at most 1048576 elements. -/
import Derived.Test.YtaohgbkhmgfnhaaCir3
namespace Go.Proofs.Ytaohgbkhmgfnhaa
open Go.RowKit
set_option maxRecDepth 100000

set_option maxHeartbeats 1000000 in
theorem eqCircuit_same (v v' : Value) (C : Ci) (w : World) (h : HasC w v C) (h' : HasC w v' C) (hn : C.gs.length ≤ 1048576) (hm : C.os.length ≤ 1048576) :
    Calls Try.prog 16 #[v, v'] w fun e w' => e = .returned (.bool true) ∧ Below w.heap.size w w' := by
  obtain ⟨G, n, c, O, m, d, rfl, hG, hO, _, _, _, _⟩ := h
  obtain ⟨G', n', c', O', m', d', rfl, hG', hO', _, _, _, _⟩ := h'
  have hgl := hG.1
  have hol := hO.1
  obtain ⟨x, y, gs, os⟩ := C
  show Calls Try.prog 16 #[.agg #[.int .i64 x, .int .i64 y, .slice G n c, .slice O m d], .agg #[.int .i64 x, .int .i64 y, .slice G' n' c', .slice O' m' d']] w _
  simp only at hgl hol hn hm hG hO hG' hO'
  obtain ⟨W1, hW1⟩ : ∃ W, W = w.alloc (.cells #[.int .i64 x, .int .i64 y, .slice G n c, .slice O m d] 30) := ⟨_, rfl⟩
  obtain ⟨W2, hW2⟩ : ∃ W, W = W1.alloc (.cells #[.int .i64 x, .int .i64 y, .slice G' n' c', .slice O' m' d'] 30) := ⟨_, rfl⟩
  have s1 : W1.heap.size = w.heap.size + 1 := by rw [hW1]; simp
  have p0 : Blk W2 w.heap.size #[.int .i64 x, .int .i64 y, .slice G n c, .slice O m d] 30 := by rw [hW2, hW1]; exact (Blk.new _ _ _).alloc _
  have p1 : Blk W2 (w.heap.size + 1) #[.int .i64 x, .int .i64 y, .slice G' n' c', .slice O' m' d'] 30 := by rw [hW2]; exact Blk.newAt _ _ _ s1.symm
  have B2 : Below w.heap.size w W2 := by rw [hW2, hW1]; exact ((Below.refl _ w).alloc (Nat.le_refl _) _).alloc (by simp) _
  have HG := hG.below B2
  have HO := hO.below B2
  have HG' := hG'.below B2
  have HO' := hO'.below B2
  go_enter Try.func16, Try.ntmps16
  go_wp2_with fail
  rw [← hW1, ← hW2]
  clear hW1 hW2
  refine (eqGateS_same G G' n n' c c' gs W2 HG HG' (by omega)).mono ?_
  rintro e w1 ⟨rfl, b1⟩
  have q0 := (p0.below' b1).cell (i := 3) rfl
  have q1 := (p1.below' b1).cell (i := 3) rfl
  have B3 := B2.trans (b1.mono B2.size)
  have HO3 := HO.below b1
  have HO3' := HO'.below b1
  clear p0 p1 b1 B2 HO HO' HG HG' hG hG' hO hO'
  go_wp2_with fail
  refine (eqIntS_same O O' m m' d d' os w1 HO3 HO3' (by omega)).mono ?_
  rintro e w2 ⟨rfl, b2⟩
  have B4 := B3.trans (b2.mono B3.size)
  go_wp2_with fail
  go_ret
  exact ⟨rfl, B4⟩

/-- The marks from m on in the cells of a circuit's lists. -/
def markC (C : Ci) (m : Int) : Ci := ⟨C.in0, C.in1, gmarks m C.gs.length, marks (m + 3 * (C.gs.length : Int)) C.os.length⟩
/-- How many cells a circuit's lists have. -/
def sizeC (C : Ci) : Int := 3 * (C.gs.length : Int) + (C.os.length : Int)

set_option maxHeartbeats 1000000 in
theorem markCircuit_any (v : Value) (C C0 : Ci) (B : Nat) (k : Int) (w wx : World) (h : OwnC w B v C) (h0 : OwnC wx B v C0) (hx : wx.heap.size ≤ w.heap.size) (hn : C.gs.length ≤ 1048576) (hm : C.os.length ≤ 1048576) (hk0 : 0 ≤ k) (hk1 : k ≤ 8388608) :
    Calls Try.prog 21 #[v, .int .i64 k] w fun e w' => e = .returned (.int .i64 (k + sizeC C)) ∧ OwnC w' B v (markC C k) ∧ Span B wx.heap.size w w' := by
  obtain ⟨G, n, c, O, m, d, rfl, hG, hO⟩ := h
  obtain ⟨G0, n0, c0, O0, m0, d0, e0, hG0, hO0⟩ := h0
  have eG : G = G0 := by injection e0 with e; injection e with e; simp at e; exact e.2.2.1.1
  have eO : O = O0 := by injection e0 with e; injection e with e; simp at e; exact e.2.2.2.1
  subst eG
  subst eO
  have hgl := hG.1
  have hol := hO.1
  have gb : ∀ ad, G = some ad → B ≤ ad.block ∧ ad.block < wx.heap.size := hG0.born
  have ob : ∀ ad, O = some ad → B ≤ ad.block ∧ ad.block < wx.heap.size := hO0.born
  have apart := ownApart hG hO
  obtain ⟨x, y, gs, os⟩ := C
  show Calls Try.prog 21 #[.agg #[.int .i64 x, .int .i64 y, .slice G n c, .slice O m d], .int .i64 k] w _
  simp only at hgl hol hn hm hG hO
  have es : sizeC ⟨x, y, gs, os⟩ = 3 * (n : Int) + (m : Int) := by simp [sizeC, hgl, hol]
  have em : markC ⟨x, y, gs, os⟩ k = ⟨x, y, gmarks k n, marks (k + 3 * (n : Int)) m⟩ := by simp [markC, hgl, hol]
  rw [es, em]
  clear es em hG0 hO0 e0
  have B1 := belowNew w (.cells #[.int .i64 x, .int .i64 y, .slice G n c, .slice O m d] 30)
  have p0 := Blk.new w #[.int .i64 x, .int .i64 y, .slice G n c, .slice O m d] 30
  have S0 : Span B wx.heap.size w (w.alloc (.cells #[.int .i64 x, .int .i64 y, .slice G n c, .slice O m d] 30)) := ⟨B1.os, B1.tape, B1.output, B1.size, fun i hi _ => B1.block i hi⟩
  have hG1 := hG.below B1
  have hO1 := hO.below B1
  have HA := Lib.hid apart
  have GB := Lib.hid gb
  have OB := Lib.hid ob
  clear apart gb ob
  go_enter Try.func21, Try.ntmps21
  go_wp2_with fail
  generalize w.alloc (.cells #[.int .i64 x, .int .i64 y, .slice G n c, .slice O m d] 30) = W1 at *
  refine (markGateS_any G B n c k gs W1 hG1 (by omega) hk0 (by omega)).mono ?_
  rintro e w1 ⟨rfl, oG, g1⟩
  have q0 := p0.grown g1 (fun e => by
    cases hG' : G with
    | none => rw [hG'] at e; simp [blockOf] at e
    | some a => rw [hG'] at e; simp [blockOf] at e; have := (GB.out a hG').2; omega)
  have hO2 := hO1.kept g1 (fun ad e1 e2 => by
    cases hG' : G with
    | none => rw [hG'] at e2; simp [blockOf] at e2
    | some a => rw [hG'] at e2; simp [blockOf] at e2; exact HA.out a ad hG' e1 e2.symm)
  have S1 := S0.grown g1 (fun b e => by
    cases hG' : G with
    | none => rw [hG'] at e; simp [blockOf] at e
    | some a => rw [hG'] at e; simp [blockOf] at e; have := GB.out a hG'; omega)
  have c3 := q0.cell (i := 3) rfl
  clear p0 hG hG1 hO1 hO S0 B1 q0
  go_wp2_with fail
  refine (markIntS_any O B m d (k + 3 * (n : Int)) os w1 hO2 (by omega) (by omega) (by omega)).mono ?_
  rintro e w2 ⟨rfl, oO, g2⟩
  have oG2 := oG.kept g2 (fun ad e1 e2 => by
    cases hO' : O with
    | none => rw [hO'] at e2; simp [blockOf] at e2
    | some a => rw [hO'] at e2; simp [blockOf] at e2; exact HA.out ad a e1 hO' e2)
  have S2 := S1.grown g2 (fun b e => by
    cases hO' : O with
    | none => rw [hO'] at e; simp [blockOf] at e
    | some a => rw [hO'] at e; simp [blockOf] at e; have := OB.out a hO'; omega)
  go_wp2_with fail
  go_ret
  exact ⟨retI (by omega), ⟨G, n, c, O, m, d, rfl, oG2, oO⟩, S2⟩

set_option maxHeartbeats 1000000 in
theorem heldCircuit_any (v : Value) (C : Ci) (k : Int) (w : World) (h : HasC w v (markC C k)) (hn : C.gs.length ≤ 1048576) (hm : C.os.length ≤ 1048576) (hk0 : 0 ≤ k) (hk1 : k ≤ 8388608) :
    Calls Try.prog 34 #[v, .int .i64 k] w fun e w' => e = .returned (.int .i64 (k + sizeC C)) ∧ Below w.heap.size w w' := by
  obtain ⟨G, n, c, O, m, d, rfl, hG, hO, _, _, _, _⟩ := h
  obtain ⟨x, y, gs, os⟩ := C
  have hgl : gs.length = n := by have := hG.1; simpa [markC, gmarks_length] using this
  have hol : os.length = m := by have := hO.1; simpa [markC, marks_length] using this
  show Calls Try.prog 34 #[.agg #[.int .i64 x, .int .i64 y, .slice G n c, .slice O m d], .int .i64 k] w _
  have es : sizeC ⟨x, y, gs, os⟩ = 3 * (n : Int) + (m : Int) := by simp [sizeC, hgl, hol]
  rw [es]
  simp only [markC, hgl, hol] at hG hO hn hm
  have B1 := belowNew w (.cells #[.int .i64 x, .int .i64 y, .slice G n c, .slice O m d] 30)
  have c3 := (Blk.new w #[.int .i64 x, .int .i64 y, .slice G n c, .slice O m d] 30).cell (i := 3) rfl
  have hG1 := hG.below B1
  have hO1 := hO.below B1
  clear es
  go_enter Try.func34, Try.ntmps34
  go_wp2_with fail
  generalize w.alloc (.cells #[.int .i64 x, .int .i64 y, .slice G n c, .slice O m d] 30) = W1 at *
  refine (heldGateS_any G n c k W1 hG1 (by omega) hk0 (by omega)).mono ?_
  rintro e w1 ⟨rfl, rfl⟩
  go_wp2_with fail
  refine (heldIntS_any O m d (k + 3 * (n : Int)) W1 hO1 (by omega) (by omega) (by omega)).mono ?_
  rintro e w2 ⟨rfl, b2⟩
  go_wp2_with fail
  go_ret
  exact ⟨retI (by omega), B1.trans (b2.mono B1.size)⟩

end Go.Proofs.Ytaohgbkhmgfnhaa
