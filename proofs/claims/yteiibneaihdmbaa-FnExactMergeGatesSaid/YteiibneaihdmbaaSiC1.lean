/- What the program's 'changed' makes with whatever function value: numbers of numbers, rows of numbers, numbers of rows. For slices of at most 16777216 elements. -/
import Derived.Test.YteiibneaihdmbaaMat1
import Derived.Test.YteiibneaihdmbaaCirI10
namespace Go.Proofs.Yteiibneaihdmbaa
open Go.RowKit Go.Shelf
set_option maxRecDepth 100000

set_option maxRecDepth 100000 in
set_option maxHeartbeats 1000000 in
theorem changedII_any (g : Nat) (lb : Array Value) (eg : ∀ args w, (callFunc g args).run Try.prog w = .ok (.enter g args) w) (f : Nat → Int) (A : Option Addr) (n c : Nat) (zs : List Int) (w : World) (h : Has w A n zs) (hn : n ≤ 16777216)
    (hcl : ∀ (W : World) (k : Nat), k < n → Below w.heap.size w W → Calls Try.prog g (#[.int .i64 (k : Int), .int .i64 (zs.getD k 0)] ++ lb) W fun e w' => e = .returned (.int .i64 (f k)) ∧ Below W.heap.size W w') :
    Calls Try.prog 70 #[.slice A n c, .func (.func g) #[] lb] w fun e w' => ∃ R, e = .returned (.slice R n n) ∧ Own w' w.heap.size R n n (mapTo f n) ∧ Below w.heap.size w w' := by
  have HCL := Lib.hid hcl
  have HEG := Lib.hid eg
  clear hcl eg
  go_enter Try.func70, Try.ntmps70
  go_wp2_with (at_make; refine makeInts _ rfl _ rfl n rfl (by omega) ?_; intro w1 hf hb1)
  have hf := hf (vals (mapTo f n))
  go_loopw [13] (fun i wr => ∃ j : Nat, j ≤ n ∧ i = .int .i64 j ∧ Filled wr w.heap.size 3 w.heap.size n (vals (mapTo f n)) (fun q => q < j) ∧ Below w.heap.size w wr) (fun i _ => n - (intOf i).toNat)
  case atStart => exact ⟨0, Nat.zero_le _, rfl, hf, hb1⟩
  case round =>
    obtain ⟨j, hj, rfl, hfj, hbj⟩ := hrel
    by_cases hlt : j < n
    · obtain ⟨ad, z, rfl, hc, HZ⟩ := (h.below hbj).elem hlt
      have hC := HCL.out wr j hlt hbj
      rw [← HZ.out] at hC
      obtain ⟨y, hy⟩ : ∃ y, f j = y := ⟨_, rfl⟩
      rw [hy] at hC
      have HC := Lib.hid hC
      have HY := Lib.hid hy
      have eg := HEG.out
      clear hy hC
      go_wp2_with (go_at_fn g; ((with_reducible refine (HC.out).mono ?_); rintro e w2 ⟨rfl, b2⟩; have hf2 := hfj.below b2; obtain ⟨u, hu⟩ := hf2.cell hlt; have hfr := hf2.free j; have B2 := hbj.trans (b2.mono hbj.size)))
      go_roundw
      case rel =>
        refine ⟨j + 1, by omega, by go_num, ?_, B2.setCell (Nat.le_refl _) _⟩
        exact hf2.put hlt (by rw [mapTo_vals _ hlt, HY.out]) (by intro q _ hq; omega)
      case measure => simp [intOf]; omega
    · go_wp2
      go_ret
      exact ⟨some ⟨w.heap.size, 0, none⟩, rfl, ⟨mapTo_length _ _, hfj.full (by rw [vals_length, mapTo_length]) (by intro q hq; omega)⟩, hbj⟩

end Go.Proofs.Yteiibneaihdmbaa
