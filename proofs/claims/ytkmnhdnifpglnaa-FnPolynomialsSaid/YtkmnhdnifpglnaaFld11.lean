/- What the program's interpolation does: it takes in one point after the other, by Newton's way. For slices of at most 12 points of a small field. -/
import Derived.Test.YtkmnhdnifpglnaaFld10
import Derived.Deep.RegionWith
namespace Go.Proofs.Ytkmnhdnifpglnaa
open Go.RowKit

theorem newC_all {p : Int} {xs ys : List Int} (h : 2 ≤ p) (k : Nat) : ∀ j, 0 ≤ (newC p xs ys k).getD j 0 ∧ (newC p xs ys k).getD j 0 < p := all_in h (newC_in h k)
theorem newV_all {p : Int} {xs : List Int} (h : 2 ≤ p) (k : Nat) : ∀ j, 0 ≤ (newV p xs k).getD j 0 ∧ (newV p xs k).getD j 0 < p := all_in h (newV_in h k)

set_option maxRecDepth 100000 in
set_option maxHeartbeats 800000 in
theorem polyThrough_any (p : Int) (A B : Option Addr) (n c d : Nat) (xs ys : List Int) (w : World) (p2 : 2 ≤ p) (p251 : p ≤ 251) (hx : Has w A n xs) (hy : Has w B n ys) (hn : n ≤ 12)
    (hz : ∀ k, k < n → 0 ≤ xs.getD k 0 ∧ xs.getD k 0 < p) (hz' : ∀ k, k < n → 0 ≤ ys.getD k 0 ∧ ys.getD k 0 < p) :
    Calls Try.prog 51 #[.int .i64 p, .slice A n c, .slice B n d] w fun e w' => ∃ R c', e = .returned (.slice R n c') ∧ Own w' w.heap.size R n c' (newC p xs ys n) ∧ Below w.heap.size w w' := by
  have HZ := Lib.hid hz
  have HZ' := Lib.hid hz'
  clear hz hz'
  have own0 : (w.alloc (.cells #[] 3)).ownsRow w.heap.size 3 1 (.slice (some ⟨w.heap.size, 0, none⟩) 0 0) 0 (vals []) := World.ownsRow_lit w #[] 0 (Nat.le_refl _) (Nat.zero_le _) rfl
  obtain ⟨w0, hw0⟩ : ∃ w0, w.alloc (.cells #[] 3) = w0 := ⟨_, rfl⟩
  have hB0 : Below w.heap.size w w0 := by rw [← hw0]; exact belowNew _ _
  rw [hw0] at own0
  have hV0 : Has (w0.alloc (.cells #[.int .i64 1] 3)) (some ⟨w0.heap.size, 0, none⟩) 1 [1] := hasNew w0 [1] _
  have hs0 : w0.heap.size = w.heap.size + 1 := by rw [← hw0, World.size_alloc]
  rw [hs0] at hV0
  have hO0 : Own w0 w.heap.size (some ⟨w.heap.size, 0, none⟩) 0 0 [] := ⟨rfl, own0⟩
  have hO1 := hO0.below (belowNew w0 (.cells #[.int .i64 1] 3))
  have hB1 := hB0.trans ((belowNew w0 (.cells #[.int .i64 1] 3)).mono hB0.size)
  have HW := Lib.hid hw0
  clear own0 hO0 hw0
  go_enter Try.func51, Try.ntmps51
  go_wp2
  rw [HW.out]
  go_loopw [7, 8, 18] (fun u v j wr => ∃ (k : Nat) (C V : Option Addr), k ≤ n ∧ j = .int .i64 k ∧ u = .slice C k k ∧ v = .slice V (k + 1) (k + 1) ∧ Own wr w.heap.size C k k (newC p xs ys k) ∧ Has wr V (k + 1) (newV p xs k) ∧ Below w.heap.size w wr) (fun _ _ j _ => n - (intOf j).toNat)
  case atStart => exact ⟨0, _, _, Nat.zero_le _, rfl, rfl, rfl, hO1, hV0, hB1⟩
  case round =>
    obtain ⟨k, C, V, hk, rfl, rfl, rfl, hC, hV, hb⟩ := hrel
    by_cases hlt : k < n
    · obtain ⟨ad, x, rfl, hcx, HX⟩ := (hx.below hb).elem hlt
      obtain ⟨x0, x1⟩ : 0 ≤ x ∧ x < p := by rw [HX.out]; exact HZ.out k hlt
      have hyr := hy.below hb
      obtain ⟨bd, y, rfl, hcy, HY⟩ := hyr.elem hlt
      obtain ⟨y0, y1⟩ : 0 ≤ y ∧ y < p := by rw [HY.out]; exact HZ'.out k hlt
      obtain ⟨t, ht⟩ : ∃ t, evM p x (newC p xs ys k) = t := ⟨_, rfl⟩
      obtain ⟨t0, t1⟩ : 0 ≤ t ∧ t < p := by rw [← ht]; exact evM_in p2
      obtain ⟨v, hv⟩ : ∃ v, evM p x (newV p xs k) = v := ⟨_, rfl⟩
      obtain ⟨v0, v1⟩ : 0 ≤ v ∧ v < p := by rw [← hv]; exact evM_in p2
      obtain ⟨s, hs⟩ : ∃ s, (y - t) % p = s := ⟨_, rfl⟩
      obtain ⟨s0, s1⟩ : 0 ≤ s ∧ s < p := by rw [← hs]; exact modIn p2
      obtain ⟨q, hq⟩ : ∃ q, powM p v (p.toNat - 2) = q := ⟨_, rfl⟩
      obtain ⟨q0, q1⟩ : 0 ≤ q ∧ q < p := by rw [← hq]; exact powM_in (by omega)
      obtain ⟨f, hf⟩ : ∃ f, s * q % p = f := ⟨_, rfl⟩
      obtain ⟨f0, f1⟩ : 0 ≤ f ∧ f < p := by rw [← hf]; exact modIn p2
      obtain ⟨m0, m1⟩ := mulFits p251 s0 s1 q0 q1
      have tm := tmodPos (a := s * q) (b := p) m0
      have HF : Hid (f = newFac p xs ys k (newC p xs ys k)) := by show _ = _; rw [newFac, ← HX.out, ← HY.out, ht, hv, hs, hq, hf]
      have HT := Lib.hid ht
      have HV := Lib.hid hv
      have HS := Lib.hid hs
      have HQ := Lib.hid hq
      clear ht hv hs hq
      have hCi := Lib.hid (newC_in (p := p) (xs := xs) (ys := ys) p2 k)
      have hCp : Hid (∀ j, j < (newC p xs ys k ++ [0]).length → 0 ≤ (newC p xs ys k ++ [0]).getD j 0 ∧ (newC p xs ys k ++ [0]).getD j 0 < p) := fun j _ => by rw [getD_app0]; exact newC_all p2 k j
      have hVp : Hid (∀ j, j < ([0] ++ newV p xs k).length → 0 ≤ ([0] ++ newV p xs k).getD j 0 ∧ ([0] ++ newV p xs k).getD j 0 < p) := fun j _ => by
        cases j with
        | zero => exact ⟨Int.le_refl _, by show (0 : Int) < p; omega⟩
        | succ j =>
          have e : ([0] ++ newV p xs k).getD (j + 1) 0 = (newV p xs k).getD j 0 := by simp
          rw [e]
          exact newV_all p2 k j
      have hVq : Hid (∀ j, j < (newV p xs k ++ [0]).length → 0 ≤ (newV p xs k ++ [0]).getD j 0 ∧ (newV p xs k ++ [0]).getD j 0 < p) := fun j _ => by rw [getD_app0]; exact newV_all p2 k j
      have hVi := Lib.hid (newV_in (p := p) (xs := xs) p2 k)
      have hw1 : IntKind.i64.wrap (y - t) = y - t := wrapIn (by omega) (by omega)
      have k0 : (0 : Int) ≤ (k : Int) := by omega
      have k1 : (k : Int) < (n : Int) := by omega
      have hCd : Has wr.drew C k (newC p xs ys k) := hC.has
      have hYd : Has wr.drew (some bd) n ys := hyr
      have hcyd : wr.drew.cell? (bd.add k) = some (.int .i64 y) := hcy
      go_wp2
      go_region_with (first
        | (go_at_call 55; refine (valueAt_any p C k k (newC p xs ys k) x t wr.drew p2 p251 x0 x1 hCd (by omega) hCi.out HT.out).mono ?_; rintro e w1 ⟨rfl, hb1⟩; obtain ⟨bd1, y', he1, hcy1, HY1⟩ := (hYd.below hb1).elem hlt; obtain rfl := Option.some.inj he1; obtain rfl : y = y' := HY.out.trans HY1.out.symm)
        | (go_at_call 75; refine (res_any (y - t) p s _ (by omega) (by omega) (by omega) (by omega) HS.out).mono ?_; rintro e w2 ⟨rfl, rfl⟩))
      all_goals
        have b1 : Below wr.heap.size wr w1 := ((Below.refl _ wr).drew).trans hb1
        have hC1 := hC.below b1
        have hV1 := hV.below b1
        have B1 := hb.trans (b1.mono hb.size)
        clear hb1 hC hV hb hx hy hyr hCd hYd hcyd
        go_wp2_with fail
        refine (valueAt_any p V (k + 1) (k + 1) (newV p xs k) x v w1 p2 p251 x0 x1 hV1 (by omega) hVi.out HV.out).mono ?_
        rintro e w2 ⟨rfl, b2⟩
        have hC2 := hC1.below b2
        have hV2 := hV1.below b2
        have B2 := B1.trans (b2.mono B1.size)
        clear b1 b2 hC1 hV1
        go_wp2_with fail
        refine (implInv_any p v q w2 p2 p251 v0 v1 HQ.out).mono ?_
        rintro e w' ⟨rfl, rfl⟩
        have hC2' := hC2.has.below (belowNew w2 (.cells #[.int .i64 0] 3))
        have hV2' := hV2.below (belowNew w2 (.cells #[.int .i64 0] 3))
        have hn2 : Has (w2.alloc (.cells #[.int .i64 0] 3)) (some ⟨w2.heap.size, 0, none⟩) 1 [0] := hasNew w2 [0] _
        have B2' := B2.trans ((belowNew w2 (.cells #[.int .i64 0] 3)).mono B2.size)
        go_wp2_with (at_builtin; refine appendFull _ rfl (.tmp 45) (.tmp 46) rfl C (some ⟨w2.heap.size, 0, none⟩) k 1 1 (newC p xs ys k) [0] rfl rfl hC2' hn2 (by omega) (by omega) (by omega) ?_; intro R3 c3 w3 o3 b3)
        have hV3 := hV2'.below b3
        have B3 := B2'.trans (b3.mono B2'.size)
        refine (withMultiple_any p f R3 V (k + 1) c3 (k + 1) (k + 1) (newC p xs ys k ++ [0]) (newV p xs k) w3 p2 p251 f0 (by omega) o3.has hV3 (Nat.le_refl _) (by omega) hCp.out hVi.out).mono ?_
        rintro e w4 ⟨R4, rfl, o4, b4⟩
        have hV4 := hV3.below b4
        have B4 := B3.trans (b4.mono B3.size)
        have o4' := o4.mono B3.size
        have hV4' := hV4.below (belowNew w4 (.cells #[.int .i64 0] 3))
        have hn4 : Has (w4.alloc (.cells #[.int .i64 0] 3)) (some ⟨w4.heap.size, 0, none⟩) 1 [0] := hasNew w4 [0] _
        have B4' := B4.trans ((belowNew w4 (.cells #[.int .i64 0] 3)).mono B4.size)
        have o4a := o4'.below (belowNew w4 (.cells #[.int .i64 0] 3))
        go_wp2_with (first
          | (at_builtin; refine appendFull _ rfl (.tmp 51) (.tmp 52) rfl (some ⟨w4.heap.size, 0, none⟩) V 1 (k + 1) (k + 1) [0] (newV p xs k) rfl rfl hn4 hV4' (by omega) (by omega) (by omega) ?_; intro R5 c5 w5 o5 b5; have hV5 := hV4'.below b5; have B5 := B4'.trans (b5.mono B4'.size); have o4b := o4a.below b5; have hV5' := hV5.below (belowNew w5 (.cells #[.int .i64 0] 3)); have o5' := o5.has.below (belowNew w5 (.cells #[.int .i64 0] 3)); have o4c := o4b.below (belowNew w5 (.cells #[.int .i64 0] 3)); have B5' := B5.trans ((belowNew w5 (.cells #[.int .i64 0] 3)).mono B5.size); have hn5 : Has (w5.alloc (.cells #[.int .i64 0] 3)) (some ⟨w5.heap.size, 0, none⟩) 1 [0] := hasNew w5 [0] _; clear b5)
          | (at_builtin; refine appendFull _ rfl (.tmp 56) (.tmp 57) rfl V (some ⟨w5.heap.size, 0, none⟩) (k + 1) 1 1 (newV p xs k) [0] rfl rfl hV5' hn5 (by omega) (by omega) (by omega) ?_; intro R6 c6 w6 o6 b6))
        have h5 := o5'.below b6
        have o4d := o4c.below b6
        have B6 := B5'.trans (b6.mono B5'.size)
        refine (withMultiple_any p (p - x) R5 R6 (1 + (k + 1)) c5 (k + 1 + 1) c6 ([0] ++ newV p xs k) (newV p xs k ++ [0]) w6 p2 p251 (by omega) (by omega) h5 o6.has (by omega) (by omega) hVp.out hVq.out).mono ?_
        rintro e w7 ⟨R7, rfl, o7, b7⟩
        have o4e := o4d.below b7
        have B7 := B6.trans (b7.mono B6.size)
        have eN : 1 + (k + 1) = k + 1 + 1 := by omega
        rw [eN] at o7 ⊢
        clear eN
        go_wp2
        go_roundw
        case rel =>
          refine ⟨k + 1, R4, R7, by omega, by go_num, rfl, rfl, ?_, ?_, B7⟩
          · rw [newC, ← HF.out]
            exact o4e
          · rw [newV, ← HX.out]
            exact o7.has
        case measure => simp [intOf]; omega
    · obtain rfl : k = n := by omega
      go_wp2
      go_ret
      exact ⟨C, k, rfl, hC, hb⟩

end Go.Proofs.Ytkmnhdnifpglnaa
