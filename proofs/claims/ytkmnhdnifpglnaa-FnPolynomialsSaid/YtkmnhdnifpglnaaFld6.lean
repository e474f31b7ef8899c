/- Appending to a list that is full, and a new list made of another's elements by a closure: 'withMultiple' adds a multiple of one list to another in the field. For slices of at most 16777216 elements. -/
import Derived.Test.YtkmnhdnifpglnaaFld5
import Derived.ArgAppend
namespace Go.Proofs.Ytkmnhdnifpglnaa
open Go.RowKit

/-- append(a, b...) where a is full: a new row. -/
theorem appendFull {ops : Array Oper} {rest : List Oper} {o : Oper} {a : Act} {Q : Exit → Act → World → Prop} (w : World) (hgd : o.guard = none) (s x : Operand)
    (ho : o.op = .call { callee := .builtin .append, args := #[s, x], argTypes := #[32, 32] }) (A B : Option Addr) (n m c : Nat) (zs ys : List Int) (hs : a.eval s = .slice A n n)
    (hx : a.eval x = .slice B m c) (hA : Has w A n zs) (hB : Has w B m ys) (hm : 0 < m) (hn : n ≤ 1048576) (hm2 : m ≤ 1048576)
    (h : ∀ R c' w', Own w' w.heap.size R (n + m) c' (zs ++ ys) → Below w.heap.size w w' → wpList Try.prog ops Q rest (a.put o.dst (.slice R (n + m) c')) w') :
    wpList Try.prog ops Q (o :: rest) a w := by
  obtain ⟨i0, hi, hz0, hz1, hz2⟩ := info_parts infoInt
  obtain ⟨ad, rfl, _, hc⟩ := hB.2 hm
  refine wpList_append_grows w hgd s x _ ho 3 i0 (.int .i64 0) 1 8 Try.underlying32 hi hz0 hz1 hz2 rfl (by decide) A n n (vals zs) hs ?_ (by rw [vals_length, hA.1]; omega) ?_ ad m c (vals ys) hx (by rw [vals_length, hB.1]; omega) ?_ (vals_one ys) (by omega) (by simp only [maxLen]; omega) (by omega) ?_
  · intro e
    by_cases h0 : n = 0
    · exact ⟨h0, h0⟩
    · obtain ⟨_, e', _⟩ := hA.2 (by omega)
      rw [e] at e'
      cases e'
  · intro b e j u hj
    by_cases h0 : j < n
    · obtain ⟨b', e', _, hc'⟩ := hA.2 (by omega)
      rw [e] at e'
      obtain rfl := Option.some.inj e'
      rw [hc' j h0, ← hj, vals_at zs j (by rw [hA.1]; exact h0)]
    · rw [List.getElem?_eq_none (by rw [vals_length, hA.1]; omega)] at hj
      cases hj
  · intro j u hj
    by_cases h0 : j < m
    · rw [hc j h0, ← hj, vals_at ys j (by rw [hB.1]; exact h0)]
    · rw [List.getElem?_eq_none (by rw [vals_length, hB.1]; omega)] at hj
      cases hj
  · intro v' w' h1 h2
    rw [← vals_append] at h1
    obtain ⟨R, c', rfl⟩ := sliceOf h1
    exact h R c' w' ⟨by rw [List.length_append, hA.1, hB.1], h1⟩ (belowOf h2)

set_option maxHeartbeats 1000000 in
theorem wmClosure_any (p factor a : Int) (M : Option Addr) (k cM : Nat) (ms : List Int) (bp bm bf i : Nat) (y : Int) (W : World) (p2 : 2 ≤ p) (p251 : p ≤ 251) (f0 : 0 ≤ factor) (f1 : factor ≤ 251) (a0 : 0 ≤ a) (a1 : a < p)
    (hP : W.cell? ⟨bp, 0, none⟩ = some (.int .i64 p)) (hM : W.cell? ⟨bm, 0, none⟩ = some (.slice M k cM)) (hF : W.cell? ⟨bf, 0, none⟩ = some (.int .i64 factor)) (h : Has W M k ms) (hi : i < k) (_hk : k ≤ 16777216)
    (hms : ∀ j, j < ms.length → 0 ≤ ms.getD j 0 ∧ ms.getD j 0 < p) (hy : (a + factor * ms.getD i 0) % p = y) :
    Calls Try.prog 85 #[.int .i64 (i : Int), .int .i64 a, .pointer (some ⟨bf, 0, none⟩), .pointer (some ⟨bm, 0, none⟩), .pointer (some ⟨bp, 0, none⟩)] W fun e w' => e = .returned (.int .i64 y) ∧ ∃ d, w' = W.drewN d := by
  have hl := h.1
  obtain ⟨ad, z, rfl, hc, HZ⟩ := h.elem hi
  obtain ⟨z0, z1⟩ : 0 ≤ z ∧ z < p := by rw [HZ.out]; exact hms i (by omega)
  rw [← HZ.out] at hy
  have HY := Lib.hid hy
  have k0 : (0 : Int) ≤ (i : Int) := by omega
  have k1 : (i : Int) < (k : Int) := by omega
  obtain ⟨q0, q1⟩ : 0 ≤ factor * z ∧ factor * z ≤ 62750 := by
    refine ⟨Int.mul_nonneg f0 z0, ?_⟩
    have h2 : z ≤ 250 := by omega
    have := Int.mul_le_mul f1 h2 z0 (by omega)
    omega
  have tm := tmodPos (a := a + factor * z) (b := p) (by omega)
  clear hy hms hl
  go_enter Try.func85, Try.ntmps85
  go_wp2
  go_quiet (fail)
  go_wp2
  go_ret
  obtain rfl := HY.out
  exact ⟨rfl, _, rfl⟩

theorem Has.keepHeap {w w' : World} {A : Option Addr} {n : Nat} {zs : List Int} (h : Has w A n zs) (e : w'.heap = w.heap) : Has w' A n zs := h.keep (by rw [e]; exact Nat.le_refl _) fun _ _ _ => by rw [e]
theorem cellKept {S : Nat} {W W' : World} (h : Below S W W') {b i : Nat} {v : Value} (hb : b < S) (hc : W.cell? ⟨b, i, none⟩ = some v) : W'.cell? ⟨b, i, none⟩ = some v := (World.cell?_of_block (h.block b hb)).trans hc

set_option maxRecDepth 100000 in
set_option maxHeartbeats 2000000 in
theorem changedWm_any (p factor : Int) (A M : Option Addr) (n c k cM : Nat) (zs ms : List Int) (bp bm bf : Nat) (w : World) (p2 : 2 ≤ p) (p251 : p ≤ 251) (f0 : 0 ≤ factor) (f1 : factor ≤ 251)
    (hP : w.cell? ⟨bp, 0, none⟩ = some (.int .i64 p)) (hM : w.cell? ⟨bm, 0, none⟩ = some (.slice M k cM)) (hF : w.cell? ⟨bf, 0, none⟩ = some (.int .i64 factor)) (bp1 : bp < w.heap.size) (bm1 : bm < w.heap.size) (bf1 : bf < w.heap.size)
    (h : Has w A n zs) (hMs : Has w M k ms) (hnk : n ≤ k) (hk : k ≤ 16777216) (hzs : ∀ j, j < zs.length → 0 ≤ zs.getD j 0 ∧ zs.getD j 0 < p) (hms : ∀ j, j < ms.length → 0 ≤ ms.getD j 0 ∧ ms.getD j 0 < p) :
    Calls Try.prog 82 #[.slice A n c, .func (.func 85) #[] #[.pointer (some ⟨bf, 0, none⟩), .pointer (some ⟨bm, 0, none⟩), .pointer (some ⟨bp, 0, none⟩)]] w
      fun e w' => ∃ R, e = .returned (.slice R n n) ∧ Own w' w.heap.size R n n (mapTo (fun j => (zs.getD j 0 + factor * ms.getD j 0) % p) n) ∧ Below w.heap.size w w' := by
  have HZS := Lib.hid hzs
  have HMS := Lib.hid hms
  have HL := Lib.hid h.1
  clear hzs hms
  go_enter Try.func82, Try.ntmps82
  go_wp2_with (at_make; refine makeInts _ rfl _ rfl n rfl (by omega) ?_; intro w1 hf hb1)
  have hf := hf (vals (mapTo (fun j => (zs.getD j 0 + factor * ms.getD j 0) % p) n))
  go_loopw [13] (fun i wr => ∃ j : Nat, j ≤ n ∧ i = .int .i64 j ∧ Filled wr w.heap.size 3 w.heap.size n (vals (mapTo (fun j => (zs.getD j 0 + factor * ms.getD j 0) % p) n)) (fun q => q < j) ∧ Below w.heap.size w wr) (fun i _ => n - (intOf i).toNat)
  case atStart => exact ⟨0, Nat.zero_le _, rfl, hf, hb1⟩
  case round =>
    obtain ⟨j, hj, rfl, hfj, hbj⟩ := hrel
    by_cases hlt : j < n
    · obtain ⟨ad, z, rfl, hc, HZ⟩ := (h.below hbj).elem hlt
      obtain ⟨z0, z1⟩ : 0 ≤ z ∧ z < p := by rw [HZ.out]; exact HZS.out j (by rw [HL.out]; exact hlt)
      obtain ⟨u, hu⟩ := hfj.cell hlt
      have hfr := hfj.free j
      have cP := cellKept hbj bp1 hP
      have cM' := cellKept hbj bm1 hM
      have cF := cellKept hbj bf1 hF
      have hM' := hMs.below hbj
      obtain ⟨y, hy⟩ : ∃ y, (z + factor * ms.getD j 0) % p = y := ⟨_, rfl⟩
      have HY := Lib.hid hy
      clear hy
      go_wp2_with fail
      refine (wmClosure_any p factor z M k cM ms bp bm bf j y wr p2 p251 f0 f1 z0 z1 cP cM' cF hM' (by omega) hk HMS.out HY.out).mono ?_
      rintro e w2 ⟨rfl, d, rfl⟩
      have hu' : (wr.drewN d).cell? ⟨w.heap.size, j, none⟩ = some u := hu
      have hfr' : (wr.drewN d).frozen? ⟨w.heap.size, j, none⟩ = false := hfr
      go_wp2
      go_roundw
      case rel =>
        refine ⟨j + 1, by omega, by go_num, ?_, (below_drewN hbj d).setCell (Nat.le_refl _) _⟩
        exact (hfj.drewN d).put hlt (by rw [mapTo_vals _ hlt, ← HZ.out, HY.out]) (by intro q _ hq; omega)
      case measure => simp [intOf]; omega
    · go_wp2
      go_ret
      exact ⟨some ⟨w.heap.size, 0, none⟩, rfl, ⟨mapTo_length _ _, hfj.full (by rw [vals_length, mapTo_length]) (by intro q hq; omega)⟩, hbj⟩

set_option maxRecDepth 100000 in
set_option maxHeartbeats 2000000 in
/-- withMultiple: a new row. -/
theorem withMultiple_any (p factor : Int) (A M : Option Addr) (n c k cM : Nat) (zs ms : List Int) (w : World) (p2 : 2 ≤ p) (p251 : p ≤ 251) (f0 : 0 ≤ factor) (f1 : factor ≤ 251)
    (h : Has w A n zs) (hMs : Has w M k ms) (hnk : n ≤ k) (hk : k ≤ 16777216) (hzs : ∀ j, j < zs.length → 0 ≤ zs.getD j 0 ∧ zs.getD j 0 < p) (hms : ∀ j, j < ms.length → 0 ≤ ms.getD j 0 ∧ ms.getD j 0 < p) :
    Calls Try.prog 76 #[.int .i64 p, .slice A n c, .slice M k cM, .int .i64 factor] w
      fun e w' => ∃ R, e = .returned (.slice R n n) ∧ Own w' w.heap.size R n n (mapTo (fun j => (zs.getD j 0 + factor * ms.getD j 0) % p) n) ∧ Below w.heap.size w w' := by
  have HZS := Lib.hid hzs
  have HMS := Lib.hid hms
  have bP := Boxed.new w 3 (.int .i64 p)
  have bM := Boxed.new (w.alloc (.cells #[.int .i64 p] 3)) 32 (.slice M k cM)
  have bF := Boxed.new ((w.alloc (.cells #[.int .i64 p] 3)).alloc (.cells #[.slice M k cM] 32)) 3 (.int .i64 factor)
  simp only [World.size_alloc] at bM bF
  have cP := ((bP.alloc (.cells #[.slice M k cM] 32)).alloc (.cells #[.int .i64 factor] 3)).cell
  have cM' := (bM.alloc (.cells #[.int .i64 factor] 3)).cell
  have cF := bF.cell
  obtain ⟨w3, hw3⟩ : ∃ w3, ((w.alloc (.cells #[.int .i64 p] 3)).alloc (.cells #[.slice M k cM] 32)).alloc (.cells #[.int .i64 factor] 3) = w3 := ⟨_, rfl⟩
  have hB0 : Below w.heap.size w w3 := by rw [← hw3]; exact (((Below.refl _ w).alloc (Nat.le_refl _) _).alloc (by simp) _).alloc (by simp; omega) _
  have hs3 : w3.heap.size = w.heap.size + 3 := by rw [← hw3]; simp
  rw [hw3] at cP cM' cF
  have h' := h.below hB0
  have hM' := hMs.below hB0
  have HW := Lib.hid hw3
  clear hzs hms bP bM bF hw3
  go_enter Try.func76, Try.ntmps76
  go_wp2_with fail
  rw [HW.out]
  refine (changedWm_any p factor A M n c k cM zs ms w.heap.size (w.heap.size + 1) (w.heap.size + 1 + 1) w3 p2 p251 f0 f1 cP cM' cF (by omega) (by omega) (by omega) h' hM' hnk hk HZS.out HMS.out).mono ?_
  rintro e w' ⟨R, rfl, ho, hb⟩
  go_wp2_with fail
  go_ret
  exact ⟨R, rfl, ho.mono (by omega), hB0.trans (hb.mono (by omega))⟩

end Go.Proofs.Ytkmnhdnifpglnaa
