/- The model's choice of a circuit that is valid. For every circuit of at most 1048576 gates and outs. -/
import Derived.Test.YteiibneaihdmbaaCirM6
import Derived.Test.YteiibneaihdmbaaCirG3
namespace Go.Proofs.Yteiibneaihdmbaa
open Go.RowKit
set_option maxRecDepth 100000

theorem OwnC.keptOld {w wx w' : World} {B g : Nat} {v : Value} {C : Ci} (h : OwnC wx B v C) (h0 : OwnC w B v C) (hg : wx.grownBy w' (some g)) (hge : w.heap.size ≤ g) : OwnC w' B v C := by
  obtain ⟨G, n, c, O, m, d, e, h1, h2⟩ := h
  obtain ⟨G', n', c', O', m', d', e', k1, k2⟩ := h0
  rw [e] at e'
  injection e' with e'
  simp at e'
  obtain ⟨⟨rfl, rfl, rfl⟩, rfl, rfl, rfl⟩ := e'
  exact ⟨G, n, c, O, m, d, e, h1.kept hg (fun ad e => by have := (k1.born ad e).2; simp; omega), h2.kept hg (fun ad e => by have := (k2.born ad e).2; simp; omega)⟩
theorem zeroOwnC (w : World) (B : Nat) : OwnC w B (.agg #[.int .i64 0, .int .i64 0, .slice none 0 0, .slice none 0 0]) ⟨0, 0, [], []⟩ := ⟨none, 0, 0, none, 0, 0, rfl, OwnG.nil_ _ _, Own.nil_ _ _⟩

set_option maxHeartbeats 2000000 in
theorem ciIf_any (v : Value) (C : Ci) (B : Nat) (w : World) (h : OwnC w B v C) (hf : C.gs.length ≤ 1048576 ∧ C.os.length ≤ 1048576) :
    Calls Try.prog 75 #[v] w fun e w' => ∃ u, e = .returned (.tuple #[u, .bool (ifG C).2]) ∧ OwnC w' B u (ifG C).1 ∧ Below w.heap.size w w' := by
  obtain ⟨G, n, c, O, q, d, rfl, _, _⟩ := id h
  have b1 := belowNew w (.cells #[.int .i64 C.in0, .int .i64 C.in1, .slice G n c, .slice O q d] 29)
  have p1 := Blk.new w #[.int .i64 C.in0, .int .i64 C.in1, .slice G n c, .slice O q d] 29
  have h1 := h.below b1
  obtain ⟨W1, hW1⟩ : ∃ W, W = w.alloc (.cells #[.int .i64 C.in0, .int .i64 C.in1, .slice G n c, .slice O q d] 29) := ⟨_, rfl⟩
  have s1 : W1.heap.size = w.heap.size + 1 := by rw [hW1]; simp
  rw [← hW1] at b1 p1 h1
  have b2 := belowNew W1 (.cells #[.int .i64 0, .int .i64 0, .slice none 0 0, .slice none 0 0] 29)
  have r2 := Blk.newAt (k := w.heap.size + 1) W1 #[.int .i64 0, .int .i64 0, .slice none 0 0, .slice none 0 0] 29 s1.symm
  have p2 := p1.below' b2
  have h2 := h1.below b2
  obtain ⟨W2, hW2⟩ : ∃ W, W = W1.alloc (.cells #[.int .i64 0, .int .i64 0, .slice none 0 0, .slice none 0 0] 29) := ⟨_, rfl⟩
  rw [← hW2] at b2 r2 p2 h2
  have B2 := b1.trans (b2.mono b1.size)
  have HG := Lib.hid (ciGood_any _ C (gd C) W2 h2.has hf rfl)
  obtain ⟨k0, k1, k2, k3⟩ := p2.four
  have H0 := Lib.hid h
  clear h b1 p1 h1 b2
  cases eg : gd C with
  | false =>
    have e1 : ifG C = (⟨0, 0, [], []⟩, false) := by rw [ifG, eg]; rfl
    rw [e1]
    go_enter Try.func75, Try.ntmps75
    go_wp2_with fail
    rw [← hW1, ← hW2]
    refine (HG.out).mono ?_
    rintro e w3 ⟨rfl, b3⟩
    rw [eg]
    clear hW1 hW2
    have r3 := r2.below' b3
    have B3 := B2.trans (b3.mono B2.size)
    obtain ⟨c0, c1, c2, c3⟩ := r3.four
    have f0 := r3.free 0
    have f1 := r3.free 1
    have f2 := r3.free 2
    have f3 := r3.free 3
    clear r2 b3
    go_wp2_with fail
    have r4 := (((r3.set 0 (.int .i64 0)).set 1 (.int .i64 0)).set 2 (.slice none 0 0)).set 3 (.slice none 0 0)
    obtain ⟨e0, e1, e2, e3⟩ := (show Blk _ (w.heap.size + 1) #[.int .i64 0, .int .i64 0, .slice none 0 0, .slice none 0 0] 29 from r4).four
    refine bodyPost_ret (v := .tuple #[.agg #[.int .i64 0, .int .i64 0, .slice none 0 0, .slice none 0 0], .bool false]) (by simp [results, Try.results75, go_sem, e0, e1, e2, e3]) rfl ⟨_, rfl, zeroOwnC _ _, ?_⟩
    exact (((B3.setCell (by show w.heap.size ≤ w.heap.size + 1; omega) _).setCell (by show w.heap.size ≤ w.heap.size + 1; omega) _).setCell (by show w.heap.size ≤ w.heap.size + 1; omega) _).setCell (by show w.heap.size ≤ w.heap.size + 1; omega) _
  | true =>
    have e1 : ifG C = (C, true) := if_pos eg
    rw [e1]
    go_enter Try.func75, Try.ntmps75
    go_wp2_with fail
    rw [← hW1, ← hW2]
    refine (HG.out).mono ?_
    rintro e w3 ⟨rfl, b3⟩
    rw [eg]
    clear hW1 hW2
    have r3 := r2.below' b3
    have p3 := p2.below' b3
    have h3 := h2.below b3
    have B3 := B2.trans (b3.mono B2.size)
    obtain ⟨c0, c1, c2, c3⟩ := r3.four
    have f0 := r3.free 0
    have f1 := r3.free 1
    have f2 := r3.free 2
    have f3 := r3.free 3
    clear r2 b3 k0 k1 k2 k3 p2
    obtain ⟨k0, k1, k2, k3⟩ := p3.four
    go_wp2_with fail
    have r4 := (((r3.set 0 (.int .i64 C.in0)).set 1 (.int .i64 C.in1)).set 2 (.slice G n c)).set 3 (.slice O q d)
    obtain ⟨e0, e1, e2, e3⟩ := (show Blk _ (w.heap.size + 1) #[.int .i64 C.in0, .int .i64 C.in1, .slice G n c, .slice O q d] 29 from r4).four
    have g4 := grown_setCell (grown_setCell (grown_setCell (grown_setCell (World.grownBy.refl w3 (some (w.heap.size + 1))) 0 (.int .i64 C.in0)) 1 (.int .i64 C.in1)) 2 (.slice G n c)) 3 (.slice O q d)
    refine bodyPost_ret (v := .tuple #[.agg #[.int .i64 C.in0, .int .i64 C.in1, .slice G n c, .slice O q d], .bool true]) (by simp [results, Try.results75, go_sem, e0, e1, e2, e3]) rfl ⟨_, rfl, h3.keptOld H0.out g4 (by omega), ?_⟩
    exact (((B3.setCell (by show w.heap.size ≤ w.heap.size + 1; omega) _).setCell (by show w.heap.size ≤ w.heap.size + 1; omega) _).setCell (by show w.heap.size ≤ w.heap.size + 1; omega) _).setCell (by show w.heap.size ≤ w.heap.size + 1; omega) _

end Go.Proofs.Yteiibneaihdmbaa
