/- The program's circuits with moved wires: movedCircuit, validCircuit. For valid circuits. -/
import Derived.Test.YteiibneaihdmbaaCirI10
import Derived.Test.YteiibneaihdmbaaCirG13
namespace Go.Proofs.Yteiibneaihdmbaa
open Go.RowKit Go.Shelf
set_option maxRecDepth 100000

set_option maxHeartbeats 4000000 in
theorem movedCircuit_any (g : Nat) (lb : Array Value) (eg : ∀ args w, (callFunc g args).run Try.prog w = .ok (.enter g args) w) (pl : Nat → Int) (N : Nat) (v : Value) (C : Ci) (w : World) (h : HasC w v C) (hp : PlaceAt g lb pl N w)
    (hn : C.gs.length ≤ 1048576) (hm : C.os.length ≤ 1048576) (hgs : ∀ k, k < C.gs.length → gateOk (N : Int) (C.gs.getD k g0) = true) (hos : ∀ j, j < C.os.length → 0 ≤ C.os.getD j 0 ∧ C.os.getD j 0 < (N : Int)) :
    Calls Try.prog 134 #[v, .func (.func g) #[] lb] w fun e w' => ∃ u, e = .returned u ∧ OwnC w' w.heap.size u ⟨0, 0, C.gs.map (mvG pl), C.os.map fun z => pl z.toNat⟩ ∧ Below w.heap.size w w' := by
  obtain ⟨G, n, c, O, m, d, rfl, hG, hO, _, _, _, _⟩ := h
  have hgl := hG.1
  have hol := hO.1
  rw [hgl] at hgs hn
  rw [hol] at hm
  obtain ⟨x, y, gs, os⟩ := C
  simp only at hgl hol hn hm hG hO hgs hos
  show Calls Try.prog 134 #[.agg #[.int .i64 x, .int .i64 y, .slice G n c, .slice O m d], .func (.func g) #[] lb] w _
  obtain ⟨W1, hW1⟩ : ∃ W, W = w.alloc (.cells #[.int .i64 x, .int .i64 y, .slice G n c, .slice O m d] 29) := ⟨_, rfl⟩
  obtain ⟨W2, hW2⟩ : ∃ W, W = W1.alloc (.cells #[.func (.func g) #[] lb] 73) := ⟨_, rfl⟩
  obtain ⟨W3, hW3⟩ : ∃ W, W = W2.alloc (.cells #[.int .i64 0, .int .i64 0, .slice none 0 0, .slice none 0 0] 29) := ⟨_, rfl⟩
  have s1 : W1.heap.size = w.heap.size + 1 := by rw [hW1]; simp
  have s2 : W2.heap.size = w.heap.size + 1 + 1 := by rw [hW2]; simp [s1]
  have s3 : W3.heap.size = w.heap.size + 1 + 1 + 1 := by rw [hW3]; simp [s2]
  have p0 : Blk W3 w.heap.size #[.int .i64 x, .int .i64 y, .slice G n c, .slice O m d] 29 := by rw [hW3, hW2, hW1]; exact ((Blk.new _ _ _).alloc _).alloc _
  have p1 : Blk W3 (w.heap.size + 1) #[.func (.func g) #[] lb] 73 := by rw [hW3, hW2]; exact (Blk.newAt _ _ _ s1.symm).alloc _
  have p2 : Blk W3 (w.heap.size + 1 + 1) #[.int .i64 0, .int .i64 0, .slice none 0 0, .slice none 0 0] 29 := by rw [hW3]; exact Blk.newAt _ _ _ s2.symm
  have B3 : Below w.heap.size w W3 := by rw [hW3, hW2, hW1]; exact (((Below.refl _ w).alloc (Nat.le_refl _) _).alloc (by simp) _).alloc (by simp; omega) _
  have HC := Lib.hid (changedMv_any g lb eg pl N G n c gs (w.heap.size + 1) W3 (p1.cell (i := 0) rfl) p1.lt (hp.below B3) (hG.below B3) hn hgs)
  obtain ⟨k0, k1, k2, k3⟩ := p0.four
  have HEG := Lib.hid eg
  have HOS := Lib.hid hos
  have HP := Lib.hid hp
  clear eg hos hp hgs
  go_enter Try.func134, Try.ntmps134
  go_wp2_with fail
  rw [← hW1, ← hW2, ← hW3]
  clear hW1 hW2 hW3
  refine (HC.out).mono ?_
  rintro e w4 ⟨R4, rfl, o4, b4⟩
  have q0 := p0.below' b4
  have q1 := p1.below' b4
  have q2 := p2.below' b4
  have B4 := B3.trans (b4.mono B3.size)
  have t4 := b4.size
  clear k0 k1 k2 k3
  obtain ⟨k0, k1, k2, k3⟩ := q0.four
  have HC2 := Lib.hid (changedMv2_any g lb HEG.out pl N O m d os (w.heap.size + 1) w4 (q1.cell (i := 0) rfl) q1.lt (HP.out.below B4) (hO.below B4) hm HOS.out)
  clear p0 p1 p2 B3 b4 HC q1
  go_wp2_with fail
  refine (HC2.out).mono ?_
  rintro e w5 ⟨R5, rfl, o5, b5⟩
  have r2 := q2.below' b5
  have oG := o4.below b5
  have B5 := B4.trans (b5.mono B4.size)
  have t5 := b5.size
  obtain ⟨c0, c1, c2, c3⟩ := r2.four
  have f0 := r2.free 0
  have f1 := r2.free 1
  have f2 := r2.free 2
  have f3 := r2.free 3
  have HK := Lib.hid (And.intro r2 (And.intro B5 (And.intro oG o5)))
  clear q0 q2 o4 b5 B4 HC2 k0 k1 k2 k3 r2 B5 oG o5
  go_wp2_with fail
  obtain ⟨r2, B5, oG, oO⟩ := HK.out
  obtain ⟨W8, hW8⟩ : ∃ W, W = (((w5.setCell ⟨w.heap.size + 1 + 1, 0, none⟩ (.int .i64 0)).setCell ⟨w.heap.size + 1 + 1, 1, none⟩ (.int .i64 0)).setCell ⟨w.heap.size + 1 + 1, 2, none⟩ (.slice R4 n n)).setCell ⟨w.heap.size + 1 + 1, 3, none⟩ (.slice R5 m m) := ⟨_, rfl⟩
  rw [← hW8]
  have g8 : w5.grownBy W8 (some (w.heap.size + 1 + 1)) := by rw [hW8]; exact grown_setCell (grown_setCell (grown_setCell (grown_setCell (World.grownBy.refl _ _) _ _) _ _) _ _) _ _
  have v8 : Blk W8 (w.heap.size + 1 + 1) #[.int .i64 0, .int .i64 0, .slice R4 n n, .slice R5 m m] 29 := by rw [hW8]; exact (((r2.set 0 _).set 1 _).set 2 _).set 3 _
  have B8 : Below w.heap.size w W8 := B5.grown g8 (by omega) (fun k hk => by simp at hk; omega)
  have oG8 := oG.kept g8 (fun ad e => by have := (oG.born ad e).1; simp; omega)
  have oO8 := oO.kept g8 (fun ad e => by have := (oO.born ad e).1; simp; omega)
  obtain ⟨e0, e1, e2, e3⟩ := v8.four
  refine bodyPost_ret (v := .agg #[.int .i64 0, .int .i64 0, .slice R4 n n, .slice R5 m m]) (by simp [results, Try.results134, go_sem, e0, e1, e2, e3]) rfl ⟨_, rfl, ⟨R4, n, n, R5, m, m, rfl, oG8.mono (by omega), oO8.mono (by omega)⟩, B8⟩

set_option maxHeartbeats 2000000 in
theorem validCircuit_any (v : Value) (C : Ci) (B : Nat) (w : World) (h : OwnC w B v C) (hf : C.gs.length ≤ 1048576 ∧ C.os.length ≤ 1048576) :
    Calls Try.prog 82 #[v] w fun e w' => ∃ u, e = .returned (.tuple #[u, .bool (ifG C).2]) ∧ OwnC w' B u (ifG C).1 ∧ Below w.heap.size w w' := by
  obtain ⟨G, n, c, O, q, d, rfl, _, _⟩ := id h
  have b1 := belowNew w (.cells #[.int .i64 C.in0, .int .i64 C.in1, .slice G n c, .slice O q d] 29)
  have p1 := Blk.new w #[.int .i64 C.in0, .int .i64 C.in1, .slice G n c, .slice O q d] 29
  have h1 := h.below b1
  obtain ⟨W1, hW1⟩ : ∃ W, W = w.alloc (.cells #[.int .i64 C.in0, .int .i64 C.in1, .slice G n c, .slice O q d] 29) := ⟨_, rfl⟩
  have s1 : W1.heap.size = w.heap.size + 1 := by rw [hW1]; simp
  rw [← hW1] at b1 p1 h1
  have b2 := belowNew W1 (.cells #[.int .i64 0, .int .i64 0, .slice none 0 0, .slice none 0 0] 29)
  have r2 := Blk.newAt (k := w.heap.size + 1) W1 #[.int .i64 0, .int .i64 0, .slice none 0 0, .slice none 0 0] 29 s1.symm
  have p2 := p1.below' b2
  have h2 := h1.below b2
  obtain ⟨W2, hW2⟩ : ∃ W, W = W1.alloc (.cells #[.int .i64 0, .int .i64 0, .slice none 0 0, .slice none 0 0] 29) := ⟨_, rfl⟩
  rw [← hW2] at b2 r2 p2 h2
  have B2 := b1.trans (b2.mono b1.size)
  have HG := Lib.hid (isCircuit_any _ C (gd C) W2 h2.has hf rfl)
  obtain ⟨k0, k1, k2, k3⟩ := p2.four
  have H0 := Lib.hid h
  clear h b1 p1 h1 b2
  cases eg : gd C with
  | false =>
    have e1 : ifG C = (⟨0, 0, [], []⟩, false) := by rw [ifG, eg]; rfl
    rw [e1]
    go_enter Try.func82, Try.ntmps82
    go_wp2_with fail
    rw [← hW1, ← hW2]
    refine (HG.out).mono ?_
    rintro e w3 ⟨rfl, b3⟩
    rw [eg]
    clear hW1 hW2
    have r3 := r2.below' b3
    have B3 := B2.trans (b3.mono B2.size)
    obtain ⟨c0, c1, c2, c3⟩ := r3.four
    have f0 := r3.free 0
    have f1 := r3.free 1
    have f2 := r3.free 2
    have f3 := r3.free 3
    clear r2 b3
    go_wp2_with fail
    have r4 := (((r3.set 0 (.int .i64 0)).set 1 (.int .i64 0)).set 2 (.slice none 0 0)).set 3 (.slice none 0 0)
    obtain ⟨e0, e1, e2, e3⟩ := (show Blk _ (w.heap.size + 1) #[.int .i64 0, .int .i64 0, .slice none 0 0, .slice none 0 0] 29 from r4).four
    refine bodyPost_ret (v := .tuple #[.agg #[.int .i64 0, .int .i64 0, .slice none 0 0, .slice none 0 0], .bool false]) (by simp [results, Try.results82, go_sem, e0, e1, e2, e3]) rfl ⟨_, rfl, zeroOwnC _ _, ?_⟩
    exact (((B3.setCell (by show w.heap.size ≤ w.heap.size + 1; omega) _).setCell (by show w.heap.size ≤ w.heap.size + 1; omega) _).setCell (by show w.heap.size ≤ w.heap.size + 1; omega) _).setCell (by show w.heap.size ≤ w.heap.size + 1; omega) _
  | true =>
    have e1 : ifG C = (C, true) := if_pos eg
    rw [e1]
    go_enter Try.func82, Try.ntmps82
    go_wp2_with fail
    rw [← hW1, ← hW2]
    refine (HG.out).mono ?_
    rintro e w3 ⟨rfl, b3⟩
    rw [eg]
    clear hW1 hW2
    have r3 := r2.below' b3
    have p3 := p2.below' b3
    have h3 := h2.below b3
    have B3 := B2.trans (b3.mono B2.size)
    obtain ⟨c0, c1, c2, c3⟩ := r3.four
    have f0 := r3.free 0
    have f1 := r3.free 1
    have f2 := r3.free 2
    have f3 := r3.free 3
    clear r2 b3 k0 k1 k2 k3 p2
    obtain ⟨k0, k1, k2, k3⟩ := p3.four
    go_wp2_with fail
    have r4 := (((r3.set 0 (.int .i64 C.in0)).set 1 (.int .i64 C.in1)).set 2 (.slice G n c)).set 3 (.slice O q d)
    obtain ⟨e0, e1, e2, e3⟩ := (show Blk _ (w.heap.size + 1) #[.int .i64 C.in0, .int .i64 C.in1, .slice G n c, .slice O q d] 29 from r4).four
    have g4 := grown_setCell (grown_setCell (grown_setCell (grown_setCell (World.grownBy.refl w3 (some (w.heap.size + 1))) 0 (.int .i64 C.in0)) 1 (.int .i64 C.in1)) 2 (.slice G n c)) 3 (.slice O q d)
    refine bodyPost_ret (v := .tuple #[.agg #[.int .i64 C.in0, .int .i64 C.in1, .slice G n c, .slice O q d], .bool true]) (by simp [results, Try.results82, go_sem, e0, e1, e2, e3]) rfl ⟨_, rfl, h3.keptOld H0.out g4 (by omega), ?_⟩
    exact (((B3.setCell (by show w.heap.size ≤ w.heap.size + 1; omega) _).setCell (by show w.heap.size ≤ w.heap.size + 1; omega) _).setCell (by show w.heap.size ≤ w.heap.size + 1; omega) _).setCell (by show w.heap.size ≤ w.heap.size + 1; omega) _

end Go.Proofs.Yteiibneaihdmbaa
