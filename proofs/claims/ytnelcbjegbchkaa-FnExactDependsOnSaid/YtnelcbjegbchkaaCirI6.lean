/- The program's values of the outs: EvalCircuit. For every circuit of at most 1048576 gates and outs and every two lists of at most 16777216 numbers. -/
import Derived.Test.YtnelcbjegbchkaaCirIA
namespace Go.Proofs.Ytnelcbjegbchkaa
open Go.RowKit
set_option maxRecDepth 100000

theorem pickL_mapTo (l at_ : List Int) : pickL l at_ = mapTo (fun j => l.getD (at_.getD j 0).toNat 0) at_.length := by
  apply List.ext_getElem
  · simp [pickL, mapTo]
  · intro i h1 h2
    simp [pickL, mapTo] at h1 h2 ⊢
    simp [h1]

set_option maxHeartbeats 400000 in
theorem outClosure_any (M : Option Addr) (k cM : Nat) (ms : List Int) (bm i j : Nat) (y : Int) (W : World) (hM : W.cell? ⟨bm, 0, none⟩ = some (.slice M k cM)) (h : Has W M k ms) (hj : j < k) (hy : ms.getD j 0 = y) :
    Calls Try.prog 194 #[.int .i64 (i : Int), .int .i64 (j : Int), .pointer (some ⟨bm, 0, none⟩)] W fun e w' => e = .returned (.int .i64 y) ∧ W = w' := by
  obtain ⟨ad, z, rfl, hc, HZ⟩ := h.elem hj
  obtain rfl : z = y := HZ.out.trans hy
  have k0 : (0 : Int) ≤ (j : Int) := by omega
  have k1 : (j : Int) < (k : Int) := by omega
  clear hy
  go_enter Try.func194, Try.ntmps194
  go_wp2
  go_ret
  exact ⟨rfl, rfl⟩

set_option maxHeartbeats 2000000 in
theorem changedOut_any (A M : Option Addr) (n c k cM : Nat) (zs ms : List Int) (bm : Nat) (w : World) (hM : w.cell? ⟨bm, 0, none⟩ = some (.slice M k cM)) (bm1 : bm < w.heap.size)
    (h : Has w A n zs) (hMs : Has w M k ms) (hn : n ≤ 16777216) (hin : ∀ j, j < zs.length → 0 ≤ zs.getD j 0 ∧ zs.getD j 0 < (k : Int)) :
    Calls Try.prog 86 #[.slice A n c, .func (.func 194) #[] #[.pointer (some ⟨bm, 0, none⟩)]] w
      fun e w' => ∃ R, e = .returned (.slice R n n) ∧ Own w' w.heap.size R n n (pickL ms zs) ∧ Below w.heap.size w w' := by
  have HIN := Lib.hid hin
  have HL := Lib.hid h.1
  rw [pickL_mapTo, h.1]
  clear hin
  go_enter Try.func86, Try.ntmps86
  go_wp2_with (at_make; refine makeInts _ rfl _ rfl n rfl (by omega) ?_; intro w1 hf hb1)
  have hf := hf (vals (mapTo (fun j => ms.getD (zs.getD j 0).toNat 0) n))
  go_loopw [13] (fun i wr => ∃ j : Nat, j ≤ n ∧ i = .int .i64 j ∧ Filled wr w.heap.size 3 w.heap.size n (vals (mapTo (fun j => ms.getD (zs.getD j 0).toNat 0) n)) (fun q => q < j) ∧ Below w.heap.size w wr) (fun i _ => n - (intOf i).toNat)
  case atStart => exact ⟨0, Nat.zero_le _, rfl, hf, hb1⟩
  case round =>
    obtain ⟨j, hj, rfl, hfj, hbj⟩ := hrel
    by_cases hlt : j < n
    · obtain ⟨ad, z, rfl, hc, HZ⟩ := (h.below hbj).elem hlt
      obtain ⟨z0, z1⟩ : 0 ≤ z ∧ z < (k : Int) := by rw [HZ.out]; exact HIN.out j (by rw [HL.out]; exact hlt)
      obtain ⟨i, rfl⟩ : ∃ i : Nat, z = (i : Int) := ⟨z.toNat, by omega⟩
      obtain ⟨u, hu⟩ := hfj.cell hlt
      have hfr := hfj.free j
      have cM' := cellKept hbj bm1 hM
      have hM' := hMs.below hbj
      obtain ⟨y, hy⟩ : ∃ y, ms.getD i 0 = y := ⟨_, rfl⟩
      have HY := Lib.hid hy
      have HC := Lib.hid (outClosure_any M k cM ms bm j i y wr cM' hM' (by omega) hy)
      clear hy
      go_wp2_with fail
      refine (HC.out).mono ?_
      rintro e w2 ⟨rfl, rfl⟩
      go_wp2
      go_roundw
      case rel =>
        refine ⟨j + 1, by omega, by go_num, ?_, hbj.setCell (Nat.le_refl _) _⟩
        exact hfj.put hlt (by rw [mapTo_vals _ hlt, ← HZ.out, ← HY.out]; rfl) (by intro q _ hq; omega)
      case measure => simp [intOf]; omega
    · go_wp2
      go_ret
      exact ⟨some ⟨w.heap.size, 0, none⟩, rfl, ⟨mapTo_length _ _, hfj.full (by rw [vals_length, mapTo_length]) (by intro q hq; omega)⟩, hbj⟩

set_option maxHeartbeats 2000000 in
theorem outValues_any (v : Value) (C : Ci) (A : Option Addr) (m cA : Nat) (vs : List Int) (w : World) (h : HasC w v C) (hG : Good C) (hx : Has w A m vs) (hl : (m : Int) = C.wires) :
    Calls Try.prog 138 #[v, .slice A m cA] w fun e w' => ∃ R, e = .returned (.slice R C.os.length C.os.length) ∧ Own w' w.heap.size R C.os.length C.os.length (pickL vs C.os) ∧ Below w.heap.size w w' := by
  obtain ⟨G, n, c, O, q, d, rfl, hGs, hO, _, _, _, _⟩ := id h
  have hol := hO.1
  have o40 : q ≤ 40 := by have := hG.o; omega
  have HIn := Lib.hid (outsIn hG hl)
  have B1 := belowNew w (.cells #[.int .i64 C.in0, .int .i64 C.in1, .slice G n c, .slice O q d] 34)
  have p1 := Blk.new w #[.int .i64 C.in0, .int .i64 C.in1, .slice G n c, .slice O q d] 34
  obtain ⟨W1, hW1⟩ : ∃ W, W = w.alloc (.cells #[.int .i64 C.in0, .int .i64 C.in1, .slice G n c, .slice O q d] 34) := ⟨_, rfl⟩
  have s1 : W1.heap.size = w.heap.size + 1 := by rw [hW1]; simp
  rw [← hW1] at B1 p1
  have b2 := belowNew W1 (.cells #[.slice A m cA] 26)
  have p2 := p1.below' b2
  have y2 := Blk.newAt (k := w.heap.size + 1) W1 #[.slice A m cA] 26 s1.symm
  obtain ⟨W2, hW2⟩ : ∃ W, W = W1.alloc (.cells #[.slice A m cA] 26) := ⟨_, rfl⟩
  rw [← hW2] at b2 p2 y2
  have B2 := B1.trans (b2.mono B1.size)
  have hx2 := hx.below B2
  have hO2 := hO.below B2
  have HC := Lib.hid (changedOut_any O A q d m cA C.os vs (w.heap.size + 1) W2 (y2.cell (i := 0) rfl) y2.lt hO2 hx2 (by omega) HIn.out)
  obtain ⟨k0, k1, k2, k3⟩ := p2.four
  rw [hol]
  have HB := Lib.hid B2
  clear h hG hx hl hGs hO hx2 hO2 b2 B1 B2 p1 y2
  go_enter Try.func138, Try.ntmps138
  go_wp2_with fail
  rw [← hW1, ← hW2]
  clear hW1 hW2
  refine (HC.out).mono ?_
  rintro e w3 ⟨R, rfl, o3, b3⟩
  go_wp2_with fail
  go_ret
  exact ⟨R, rfl, o3.mono HB.out.size, HB.out.trans (b3.mono HB.out.size)⟩

end Go.Proofs.Ytnelcbjegbchkaa
