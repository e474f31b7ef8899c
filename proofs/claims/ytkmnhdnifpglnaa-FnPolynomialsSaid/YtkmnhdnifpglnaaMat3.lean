/- What the program's 'changed' makes of rows, its search for a row and its closures do. For slices of at most 16777216 elements. -/
import Derived.Test.YtkmnhdnifpglnaaMat2
namespace Go.Proofs.Ytkmnhdnifpglnaa
open Go.RowKit

theorem Has.some_ {w : World} {A : Option Addr} {n : Nat} {zs : List Int} (h : Has w A n zs) (hn : 0 < n) : ∃ ad : Addr, A = some ad := by
  obtain ⟨ad, e, _⟩ := h.2 hn
  exact ⟨ad, e⟩

set_option maxRecDepth 100000 in
set_option maxHeartbeats 1000000 in
theorem changedRows_any (A : Option Addr) (n c : Nat) (M : Nat → List Int) (Y : Option Addr) (q cq : Nat) (ys : List Int) (b : Nat) (w : World) (h : HasM w A n M) (hn : n ≤ 16777216) (hrow : ∀ i, i < n → 0 < (M i).length ∧ (M i).length ≤ 1048576)
    (hY : Has w Y q ys) (hb : w.cell? ⟨b, 0, none⟩ = some (.slice Y q cq)) (hbs : b < w.heap.size) (hq : n ≤ q) :
    Calls Try.prog 61 #[.slice A n c, .func (.func 62) #[] #[.pointer (some ⟨b, 0, none⟩)]] w
      fun e w' => ∃ g, e = .returned (.slice (some ⟨g, 0, none⟩) n n) ∧ MatR w' w.heap.size g n (fun i => M i ++ [ys.getD i 0]) ∧ Below w.heap.size w w' := by
  have HR := Lib.hid hrow
  clear hrow
  go_enter Try.func61, Try.ntmps61
  go_wp2_with (at_make; refine makeMat _ rfl _ rfl n rfl hn ?_; intro w1 hm hb1)
  go_loopw [13] (fun i wr => ∃ j : Nat, j ≤ n ∧ i = .int .i64 j ∧ MatR wr w.heap.size w.heap.size n (fun i => if i < j then M i ++ [ys.getD i 0] else []) ∧ Below w.heap.size w wr) (fun i _ => n - (intOf i).toNat)
  case atStart => exact ⟨0, Nat.zero_le _, rfl, hm.ext (fun k _ => by simp), hb1⟩
  case round =>
    obtain ⟨j, hj, rfl, hmj, hbj⟩ := hrel
    by_cases hlt : j < n
    · obtain ⟨ad, R, m, cR, rfl, hcR, hRow, hm1, hmc, hNil⟩ := (h.below hbj).elem hlt
      have hlen := HR.out j hlt
      rw [hRow.1] at hlen
      obtain ⟨hl0, hl1⟩ := hlen
      obtain ⟨ar, rfl⟩ := hRow.some_ hl0
      have hYj := hY.below hbj
      have hbc := cellKept hbj hbs hb
      have hgl := hmj.lt.2
      go_wp2_with fail
      refine (rowClosure_any ar m cR (M j) Y q cq ys b j (ys.getD j 0) wr hRow hl1 hYj hbc (by have := hbj.size; omega) (by omega) rfl).mono ?_
      rintro e w2 ⟨R2, c2, rfl, ho, hb2⟩
      have hm2 := hmj.below hb2
      have hb3 := hbj.trans (hb2.mono hbj.size)
      obtain ⟨Ru, mu, cu, hcu, _⟩ := hm2.elem hlt
      have hfr := hm2.free j
      go_wp2
      go_roundw
      case rel =>
        refine ⟨j + 1, by omega, by go_num, ?_, hb3.setCell (Nat.le_refl _) _⟩
        refine (hm2.put hlt ho.has (by omega) ho.capLe (own_nilOk ho) (ho.apart hgl)).ext fun k hk => ?_
        by_cases e : k = j
        · rw [if_pos e, if_pos (by omega), e]
        · rw [if_neg e]
          by_cases e2 : k < j
          · rw [if_pos e2, if_pos (by omega)]
          · rw [if_neg e2, if_neg (by omega)]
      case measure => simp [intOf]; omega
    · obtain rfl : j = n := by omega
      go_wp2
      go_ret
      exact ⟨w.heap.size, rfl, hmj.ext (fun k hk => by rw [if_pos hk]), hbj⟩

set_option maxHeartbeats 1000000 in
theorem solvedClosure_any (p f a y : Int) (bp bf i : Nat) (W : World) (p2 : 2 ≤ p) (p251 : p ≤ 251) (f0 : 0 ≤ f) (f1 : f < p) (a0 : 0 ≤ a) (a1 : a < p) (hP : W.cell? ⟨bp, 0, none⟩ = some (.int .i64 p)) (hF : W.cell? ⟨bf, 0, none⟩ = some (.int .i64 f)) (hy : a * f % p = y) :
    Calls Try.prog 83 #[.int .i64 (i : Int), .int .i64 a, .pointer (some ⟨bf, 0, none⟩), .pointer (some ⟨bp, 0, none⟩)] W fun e w' => e = .returned (.int .i64 y) ∧ W = w' := by
  have HY := Lib.hid hy
  clear hy
  obtain ⟨m0, m1⟩ := mulFits p251 a0 a1 f0 f1
  have tm := tmodPos (a := a * f) (b := p) m0
  go_enter Try.func83, Try.ntmps83
  go_wp2
  go_ret
  obtain rfl := HY.out
  exact ⟨rfl, rfl⟩

set_option maxRecDepth 100000 in
set_option maxHeartbeats 1000000 in
theorem changedSolved_any (p f : Int) (A : Option Addr) (n c : Nat) (zs : List Int) (bp bf : Nat) (w : World) (p2 : 2 ≤ p) (p251 : p ≤ 251) (f0 : 0 ≤ f) (f1 : f < p)
    (hP : w.cell? ⟨bp, 0, none⟩ = some (.int .i64 p)) (hF : w.cell? ⟨bf, 0, none⟩ = some (.int .i64 f)) (bp1 : bp < w.heap.size) (bf1 : bf < w.heap.size)
    (h : Has w A n zs) (hn : n ≤ 16777216) (hzs : ∀ j, 0 ≤ zs.getD j 0 ∧ zs.getD j 0 < p) :
    Calls Try.prog 82 #[.slice A n c, .func (.func 83) #[] #[.pointer (some ⟨bf, 0, none⟩), .pointer (some ⟨bp, 0, none⟩)]] w
      fun e w' => ∃ R, e = .returned (.slice R n n) ∧ Own w' w.heap.size R n n (mapTo (fun j => zs.getD j 0 * f % p) n) ∧ Below w.heap.size w w' := by
  have HZS := Lib.hid hzs
  clear hzs
  go_enter Try.func82, Try.ntmps82
  go_wp2_with (at_make; refine makeInts _ rfl _ rfl n rfl (by omega) ?_; intro w1 hf hb1)
  have hf := hf (vals (mapTo (fun j => zs.getD j 0 * f % p) n))
  go_loopw [13] (fun i wr => ∃ j : Nat, j ≤ n ∧ i = .int .i64 j ∧ Filled wr w.heap.size 3 w.heap.size n (vals (mapTo (fun j => zs.getD j 0 * f % p) n)) (fun q => q < j) ∧ Below w.heap.size w wr) (fun i _ => n - (intOf i).toNat)
  case atStart => exact ⟨0, Nat.zero_le _, rfl, hf, hb1⟩
  case round =>
    obtain ⟨j, hj, rfl, hfj, hbj⟩ := hrel
    by_cases hlt : j < n
    · obtain ⟨ad, z, rfl, hc, HZ⟩ := (h.below hbj).elem hlt
      obtain ⟨z0, z1⟩ : 0 ≤ z ∧ z < p := by rw [HZ.out]; exact HZS.out j
      obtain ⟨u, hu⟩ := hfj.cell hlt
      have hfr := hfj.free j
      have cP := cellKept hbj bp1 hP
      have cF := cellKept hbj bf1 hF
      obtain ⟨y, hy⟩ : ∃ y, z * f % p = y := ⟨_, rfl⟩
      have HY := Lib.hid hy
      clear hy
      go_wp2_with fail
      refine (solvedClosure_any p f z y bp bf j wr p2 p251 f0 f1 z0 z1 cP cF HY.out).mono ?_
      rintro e w2 ⟨rfl, rfl⟩
      go_wp2
      go_roundw
      case rel =>
        refine ⟨j + 1, by omega, by go_num, ?_, hbj.setCell (Nat.le_refl _) _⟩
        exact hfj.put hlt (by rw [mapTo_vals _ hlt, ← HZ.out, HY.out]) (by intro q _ hq; omega)
      case measure => simp [intOf]; omega
    · go_wp2
      go_ret
      exact ⟨some ⟨w.heap.size, 0, none⟩, rfl, ⟨mapTo_length _ _, hfj.full (by rw [vals_length, mapTo_length]) (by intro q hq; omega)⟩, hbj⟩

set_option maxHeartbeats 1000000 in
theorem outClosure_any (ad : Addr) (m c : Nat) (L : List Int) (B : Option Addr) (n cB i b : Nat) (y : Int) (w : World) (h : Has w (some ad) m L) (hn : n < m) (_hm : m ≤ 16777216) (hb : w.cell? ⟨b, 0, none⟩ = some (.slice B n cB)) (hy : L.getD n 0 = y) :
    Calls Try.prog 66 #[.int .i64 (i : Int), .slice (some ad) m c, .pointer (some ⟨b, 0, none⟩)] w fun e w' => e = .returned (.int .i64 y) ∧ w = w' := by
  obtain ⟨ad', z, e, hc, HZ⟩ := h.elem hn
  obtain rfl := Option.some.inj e
  obtain rfl : z = y := HZ.out.trans hy
  have n0 : (0 : Int) ≤ (n : Int) := by omega
  have n1 : (n : Int) < (m : Int) := by omega
  clear hy
  go_enter Try.func66, Try.ntmps66
  go_wp2
  go_ret
  exact ⟨rfl, rfl⟩

set_option maxRecDepth 100000 in
set_option maxHeartbeats 1000000 in
theorem changedOut_any (A : Option Addr) (n c : Nat) (M : Nat → List Int) (B : Option Addr) (cB b : Nat) (w : World) (h : HasM w A n M) (hn : n ≤ 16777216) (hrow : ∀ i, i < n → n < (M i).length)
    (hb : w.cell? ⟨b, 0, none⟩ = some (.slice B n cB)) (hbs : b < w.heap.size) :
    Calls Try.prog 65 #[.slice A n c, .func (.func 66) #[] #[.pointer (some ⟨b, 0, none⟩)]] w
      fun e w' => ∃ R, e = .returned (.slice R n n) ∧ Own w' w.heap.size R n n (mapTo (fun i => (M i).getD n 0) n) ∧ Below w.heap.size w w' := by
  have HR := Lib.hid hrow
  clear hrow
  go_enter Try.func65, Try.ntmps65
  go_wp2_with (at_make; refine makeInts _ rfl _ rfl n rfl (by omega) ?_; intro w1 hf hb1)
  have hf := hf (vals (mapTo (fun i => (M i).getD n 0) n))
  go_loopw [13] (fun i wr => ∃ j : Nat, j ≤ n ∧ i = .int .i64 j ∧ Filled wr w.heap.size 3 w.heap.size n (vals (mapTo (fun i => (M i).getD n 0) n)) (fun q => q < j) ∧ Below w.heap.size w wr) (fun i _ => n - (intOf i).toNat)
  case atStart => exact ⟨0, Nat.zero_le _, rfl, hf, hb1⟩
  case round =>
    obtain ⟨j, hj, rfl, hfj, hbj⟩ := hrel
    by_cases hlt : j < n
    · obtain ⟨ad, R, m, cR, rfl, hcR, hRow, hm1, hmc, hNil⟩ := (h.below hbj).elem hlt
      have hlen := HR.out j hlt
      rw [hRow.1] at hlen
      obtain ⟨ar, rfl⟩ := hRow.some_ (by omega)
      obtain ⟨u, hu⟩ := hfj.cell hlt
      have hfr := hfj.free j
      have hbc := cellKept hbj hbs hb
      obtain ⟨y, hy⟩ : ∃ y, (M j).getD n 0 = y := ⟨_, rfl⟩
      have HY := Lib.hid hy
      clear hy
      go_wp2_with fail
      refine (outClosure_any ar m cR (M j) B n cB j b y wr hRow hlen hm1 hbc HY.out).mono ?_
      rintro e w2 ⟨rfl, rfl⟩
      go_wp2
      go_roundw
      case rel =>
        refine ⟨j + 1, by omega, by go_num, ?_, hbj.setCell (Nat.le_refl _) _⟩
        exact hfj.put hlt (by rw [mapTo_vals _ hlt, HY.out]) (by intro q _ hq; omega)
      case measure => simp [intOf]; omega
    · go_wp2
      go_ret
      exact ⟨some ⟨w.heap.size, 0, none⟩, rfl, ⟨mapTo_length _ _, hfj.full (by rw [vals_length, mapTo_length]) (by intro q hq; omega)⟩, hbj⟩

set_option maxHeartbeats 1000000 in
theorem pivotClosure_any (ad : Addr) (m c : Nat) (L : List Int) (k b : Nat) (r : Bool) (w : World) (h : Has w (some ad) m L) (hk : k < m) (_hm : m ≤ 16777216) (hb : w.cell? ⟨b, 0, none⟩ = some (.int .i64 (k : Int))) (hr : decide (L.getD k 0 ≠ 0) = r) :
    Calls Try.prog 81 #[.slice (some ad) m c, .pointer (some ⟨b, 0, none⟩)] w fun e w' => e = .returned (.bool r) ∧ w = w' := by
  obtain ⟨ad', z, e, hc, HZ⟩ := h.elem hk
  obtain rfl := Option.some.inj e
  rw [← HZ.out] at hr
  have HR := Lib.hid hr
  have n0 : (0 : Int) ≤ (k : Int) := by omega
  have n1 : (k : Int) < (m : Int) := by omega
  clear hr
  go_enter Try.func81, Try.ntmps81
  go_wp2
  go_ret
  refine ⟨?_, rfl⟩
  have e := HR.out
  show Ending.returned (.bool (z != 0)) = _
  rw [← e]
  by_cases hz : z = 0 <;> simp [bne, hz]

set_option maxRecDepth 100000 in
set_option maxHeartbeats 1000000 in
theorem indexFunc_any (A : Option Addr) (n c : Nat) (M : Nat → List Int) (k b : Nat) (w : World) (h : HasM w A n M) (hn : n ≤ 16777216) (hrow : ∀ i, i < n → k < (M i).length) (hb : w.cell? ⟨b, 0, none⟩ = some (.int .i64 (k : Int))) :
    Calls Try.prog 80 #[.slice A n c, .func (.func 81) #[] #[.pointer (some ⟨b, 0, none⟩)]] w
      fun e w' => ∃ i : Int, e = .returned (.int .i64 i) ∧ w = w' ∧ ((i = -1 ∧ Hid (∀ j, j < n → (M j).getD k 0 = 0)) ∨ ∃ r : Nat, r < n ∧ i = r ∧ Hid ((M r).getD k 0 ≠ 0 ∧ ∀ j, j < r → (M j).getD k 0 = 0)) := by
  have HR := Lib.hid hrow
  clear hrow
  go_enter Try.func80, Try.ntmps80
  go_wp2
  go_loop [8] (fun i => ∃ j : Nat, j ≤ n ∧ i = .int .i64 j ∧ Hid (∀ i, i < j → (M i).getD k 0 = 0)) (fun i => n - (intOf i).toNat)
  case atStart => exact ⟨0, Nat.zero_le _, rfl, fun i hi => absurd hi (by omega)⟩
  case round =>
    obtain ⟨j, hj, rfl, HJ⟩ := hrel
    by_cases hlt : j < n
    · obtain ⟨ad, R, m, cR, rfl, hcR, hRow, hm1, hmc, hNil⟩ := h.elem hlt
      have hlen := HR.out j hlt
      rw [hRow.1] at hlen
      obtain ⟨ar, rfl⟩ := hRow.some_ (by omega)
      cases hq : decide ((M j).getD k 0 ≠ 0) with
      | true =>
        have HQ := Lib.hid hq
        clear hq
        go_wp2_with fail
        refine (pivotClosure_any ar m cR (M j) k b true w hRow hlen hm1 hb HQ.out).mono ?_
        rintro e w2 ⟨rfl, rfl⟩
        go_wp2
        go_ret
        exact ⟨(j : Int), rfl, rfl, .inr ⟨j, hlt, rfl, of_decide_eq_true HQ.out, HJ.out⟩⟩
      | false =>
        have HQ := Lib.hid hq
        clear hq
        have HK : Hid (∀ i, i < j + 1 → (M i).getD k 0 = 0) := fun i hi => by
          by_cases e : i = j
          · rw [e]; exact Decidable.not_not.1 (of_decide_eq_false HQ.out)
          · exact HJ.out i (by omega)
        go_wp2_with fail
        refine (pivotClosure_any ar m cR (M j) k b false w hRow hlen hm1 hb HQ.out).mono ?_
        rintro e w2 ⟨rfl, rfl⟩
        go_wp2
        go_round
        case rel => exact ⟨j + 1, by omega, by go_num, HK⟩
        case measure => simp [intOf]; omega
    · obtain rfl : j = n := by omega
      go_wp2
      go_ret
      exact ⟨-1, rfl, rfl, .inl ⟨rfl, HJ.out⟩⟩

end Go.Proofs.Ytkmnhdnifpglnaa
