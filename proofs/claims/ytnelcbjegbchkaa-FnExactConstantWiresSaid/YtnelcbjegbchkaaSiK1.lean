/- slices.IndexFunc and slices.DeleteFunc on a row of integers, at whatever function value that reads only. For rows of the call's own of at most 16777216 elements. -/
import Derived.Test.YtnelcbjegbchkaaGen1
import Derived.Shelf.Abstract
import Derived.Lib.SliceRun
import Derived.Deep.DeepCutAuto
namespace Go.Proofs.Ytnelcbjegbchkaa
open Go.RowKit Go.Shelf
set_option maxRecDepth 100000

/-- The function value fn tells of each element whether P holds, and turns nothing, in whatever world that differs from w in a row's block alone. -/
def Tells (fn : Nat) (lb : Array Value) (P : Int → Bool) (zs : List Int) (r : Option Nat) (w : World) : Prop :=
  ∀ (W : World) (k : Nat), k < zs.length → w.grownBy W r → Calls Try.prog fn (#[.int .i64 (zs.getD k 0)] ++ lb) W fun e w' => e = .returned (.bool (P (zs.getD k 0))) ∧ W = w'

set_option maxRecDepth 100000 in
set_option maxHeartbeats 1000000 in
theorem indexInts_any (fn : Nat) (lb : Array Value) (eg : ∀ args w, (callFunc fn args).run Try.prog w = .ok (.enter fn args) w) (P : Int → Bool) (A : Option Addr) (n c : Nat) (zs : List Int) (r : Option Nat) (w : World) (h : Has w A n zs) (hn : n ≤ 16777216) (hcl : Tells fn lb P zs r w) :
    Calls Try.prog 167 #[.slice A n c, .func (.func fn) #[] lb] w
      fun e w' => ∃ i : Int, e = .returned (.int .i64 i) ∧ w = w' ∧ Hid ((i = -1 ∧ ∀ j, j < n → P (zs.getD j 0) = false) ∨ ∃ r : Nat, r < n ∧ i = (r : Int) ∧ P (zs.getD r 0) = true ∧ ∀ j, j < r → P (zs.getD j 0) = false) := by
  have HCL := Lib.hid hcl
  have HEG := Lib.hid eg
  have HL : Hid (zs.length = n) := h.1
  clear hcl eg
  go_enter Try.func167, Try.ntmps167
  go_wp2_with fail
  go_loop [8] (fun iv => ∃ j : Nat, j ≤ n ∧ iv = .int .i64 j ∧ Hid (∀ i, i < j → P (zs.getD i 0) = false)) (fun iv => n - (intOf iv).toNat)
  case atStart => exact ⟨0, Nat.zero_le _, rfl, Lib.hid (fun i hi => absurd hi (by omega))⟩
  case round =>
    obtain ⟨j, hj, rfl, HJ⟩ := hrel
    by_cases hlt : j < n
    · obtain ⟨ad, z, rfl, hcz, HZ⟩ := h.elem hlt
      have hC := HCL.out w j (by rw [HL.out]; exact hlt) (World.grownBy.refl _ _)
      rw [← HZ.out] at hC
      obtain ⟨q, hq⟩ : ∃ q, P z = q := ⟨_, rfl⟩
      rw [hq] at hC
      have HC := Lib.hid hC
      have HQ : Hid (P (zs.getD j 0) = q) := by show _ = _; rw [← HZ.out]; exact hq
      have eg := HEG.out
      clear hC hq
      have j0 : (0 : Int) ≤ (j : Int) := by omega
      have j1 : (j : Int) < (n : Int) := by omega
      cases q with
      | true =>
        go_wp2_with (go_at_fn fn; ((with_reducible refine (HC.out).mono ?_); rintro e w2 ⟨rfl, rfl⟩))
        go_ret
        exact ⟨(j : Int), rfl, rfl, Lib.hid (.inr ⟨j, hlt, rfl, HQ.out, HJ.out⟩)⟩
      | false =>
        have HK : Hid (∀ i, i < j + 1 → P (zs.getD i 0) = false) := Lib.hid (fun i hi => by
          by_cases e : i = j
          · rw [e]; exact HQ.out
          · exact HJ.out i (by omega))
        go_wp2_with (go_at_fn fn; ((with_reducible refine (HC.out).mono ?_); rintro e w2 ⟨rfl, rfl⟩))
        go_round
        case rel => exact ⟨j + 1, by omega, by go_num, HK⟩
        case measure => simp [intOf]; omega
    · obtain rfl : j = n := by omega
      go_wp2_with fail
      go_ret
      exact ⟨-1, rfl, rfl, Lib.hid (.inl ⟨rfl, HJ.out⟩)⟩

theorem rowShrink {w : World} {B g n i : Nat} {zs : List Int} (h : Row w B g n zs) (hi : i ≤ n) : Own w B (some ⟨g, 0, none⟩) i n (zs.take i) := by
  obtain ⟨hl, hx, hr⟩ := h
  refine ⟨by rw [List.length_take, hl]; omega, ?_⟩
  rcases hr with ⟨e0, _⟩ | ⟨g', cap', cur, e0, hb, hg, hn, hm, hs, ht⟩
  · cases e0
  · injection e0 with e1 _ e3
    injection e1 with e1
    injection e1 with e1
    subst e1; subst e3
    refine ⟨by rw [vals_length, List.length_take, hl, Nat.mul_one]; exact Nat.min_eq_left hi, .inr ⟨g, n, cur, rfl, hb, hg, hi, hm, hs, ?_⟩⟩
    have e : vals (zs.take i) = (vals zs).take i := by simp [vals, List.map_take]
    rw [e, ← ht, List.take_take]
    congr 1
    omega
theorem rowClear {B g n : Nat} {i : Nat} : ∀ (m j : Nat) (w : World) (zs : List Int), Row w B g n zs → i ≤ j → ∃ zs', Row (w.setCells g j (List.replicate m (.int .i64 0))) B g n zs' ∧ zs'.take i = zs.take i
  | 0, _, _, zs, h, _ => ⟨zs, h, rfl⟩
  | m + 1, j, _, zs, h, hij => by
    obtain ⟨zs', h1, h2⟩ := rowClear (i := i) m (j + 1) _ _ (h.put j 0) (by omega)
    exact ⟨zs', h1, by rw [h2, List.take_set_of_le hij]⟩
theorem grownCells {g : Nat} {w0 : World} : ∀ (vs : List Value) (j : Nat) (w : World), w0.grownBy w (some g) → w0.grownBy (w.setCells g j vs) (some g)
  | [], _, _, h => h
  | v :: r, j, _, h => grownCells r (j + 1) _ (grown_setCell h j v)

theorem filterStep {zs : List Int} {p : Int → Bool} {j : Nat} (hj : j < zs.length) : (zs.take (j + 1)).filter p = (zs.take j).filter p ++ (if p (zs.getD j 0) = true then [zs.getD j 0] else []) := by
  have e : zs.take (j + 1) = zs.take j ++ [zs.getD j 0] := by
    rw [List.take_add_one, List.getElem?_eq_getElem hj]
    simp [List.getD, List.getElem?_eq_getElem hj]
  rw [e, List.filter_append]
  congr 1
  by_cases h : p (zs.getD j 0) = true
  · rw [if_pos h]; simp only [List.filter_cons, h, if_true, List.filter_nil]
  · rw [if_neg h]; simp only [List.filter_cons, h, List.filter_nil]; simp
theorem filterNone {zs : List Int} {P : Int → Bool} {n : Nat} (h : ∀ j, j < n → P (zs.getD j 0) = false) (hn : n ≤ zs.length) : ∀ k, k ≤ n → (zs.take k).filter (fun x => !P x) = zs.take k
  | 0, _ => by simp
  | k + 1, hk => by
    rw [filterStep (by omega), filterNone h hn k (by omega), if_pos (show (!P (zs.getD k 0)) = true by rw [h k (by omega)]; rfl), List.take_add_one, List.getElem?_eq_getElem (show k < zs.length by omega)]
    simp [List.getD, List.getElem?_eq_getElem (show k < zs.length by omega)]

/-- What holds of the row while elements are struck: i are kept of the first j. -/
def DelRel (w : World) (B g n : Nat) (zs : List Int) (P : Int → Bool) (iv jv : Value) (wr : World) : Prop :=
  ∃ (i j : Nat) (xs : List Int), iv = .int .i64 i ∧ jv = .int .i64 j ∧ i < j ∧ j ≤ n ∧ Row wr B g n xs ∧ Hid (xs.take i = (zs.take j).filter fun x => !P x) ∧ Hid (∀ l, j ≤ l → xs.getD l 0 = zs.getD l 0) ∧ Hid (w.grownBy wr (some g))

set_option maxRecDepth 100000 in
set_option maxHeartbeats 1000000 in
theorem deleteInts_any (fn : Nat) (lb : Array Value) (eg : ∀ args w, (callFunc fn args).run Try.prog w = .ok (.enter fn args) w) (P : Int → Bool) (A : Option Addr) (n : Nat) (zs : List Int) (B : Nat) (w : World) (h : Own w B A n n zs) (hn : n ≤ 16777216) (hcl : Tells fn lb P zs (blockOf A) w) :
    Calls Try.prog 108 #[.slice A n n, .func (.func fn) #[] lb] w
      fun e w' => ∃ m, e = .returned (.slice A m n) ∧ Own w' B A m n (zs.filter fun x => !P x) ∧ w.grownBy w' (blockOf A) := by
  have HI := Lib.hid (indexInts_any fn lb eg P A n n zs _ w h.has hn hcl)
  have HL : Hid (zs.length = n) := h.1
  have HCL := Lib.hid hcl
  have HEG := Lib.hid eg
  clear hcl eg
  go_enter Try.func108, Try.ntmps108
  go_wp2_with fail
  refine (HI.out).mono ?_
  rintro e w2 ⟨i, rfl, rfl, HC⟩
  rcases HC.out with ⟨rfl, h0⟩ | ⟨r, hr, rfl, h1, h0⟩
  · have HF : Hid (zs.filter (fun x => !P x) = zs) := by
      have e := filterNone h0 (by rw [HL.out]; exact Nat.le_refl _) n (Nat.le_refl _)
      rw [← HL.out, List.take_length] at e
      exact e
    clear h0 HC
    go_wp2_with fail
    go_ret
    exact ⟨n, rfl, by rw [HF.out]; exact h, World.grownBy.refl _ _⟩
  · obtain ⟨g, hA⟩ : ∃ g, A = some ⟨g, 0, none⟩ := by
      rcases h.2.2 with ⟨e0, e1⟩ | ⟨g', cap', cur, e0, _⟩
      · omega
      · injection e0 with e1
        exact ⟨g', e1⟩
    subst hA
    have hRow : Row w B g n zs := h
    have hne : ¬ (r : Int) = -1 := by omega
    have r0 : (0 : Int) ≤ (r : Int) := by omega
    have H0 : Hid (zs.take r = (zs.take (r + 1)).filter fun x => !P x) := by
      show _ = _
      rw [filterStep (by rw [HL.out]; exact hr), filterNone h0 (by rw [HL.out]; omega) r (Nat.le_refl _), if_neg (show ¬ (!P (zs.getD r 0)) = true by rw [h1]; decide), List.append_nil]
    clear h0 h1 HC HI
    go_wp2_with fail
    go_loopw [5, 6] (fun iv jv wr => DelRel w B g n zs P iv jv wr) (fun _ jv _ => n - (intOf jv).toNat)
    case atStart => exact ⟨r, r + 1, zs, rfl, by go_num, by omega, by omega, hRow, H0, Lib.hid (fun _ _ => rfl), Lib.hid (World.grownBy.refl _ _)⟩
    case round =>
      obtain ⟨i, j, xs, rfl, rfl, hij, hj, hx, HX, HS, HGr⟩ := hrel
      have i0 : (0 : Int) ≤ (i : Int) := by omega
      have j0 : (0 : Int) ≤ (j : Int) := by omega
      have i1 : (i : Int) < (n : Int) := by omega
      by_cases hlt : j < n
      · have j1 : (j : Int) < (n : Int) := by omega
        have hcj := hx.cell hlt
        obtain ⟨z, hz⟩ : ∃ z, zs.getD j 0 = z := ⟨_, rfl⟩
        rw [HS.out j (Nat.le_refl _), hz] at hcj
        have hC := HCL.out wr j (by rw [HL.out]; exact hlt) HGr.out
        rw [hz] at hC
        obtain ⟨q, hq⟩ : ∃ q, P z = q := ⟨_, rfl⟩
        rw [hq] at hC
        have HC := Lib.hid hC
        have HFS := Lib.hid (filterStep (p := fun x => !P x) (show j < zs.length by rw [HL.out]; exact hlt))
        have HZ := Lib.hid hz
        have HQ := Lib.hid hq
        have eg := HEG.out
        have hci := hx.cell (show i < n by omega)
        have hfi := hx.free i
        have HRow := Lib.hid hx
        have HXL : Hid (xs.length = n) := hx.1
        clear hz hq hC hx
        cases q with
        | true =>
          have HN : Hid (xs.take i = (zs.take (j + 1)).filter fun x => !P x) := by
            show _ = _
            rw [HFS.out, HX.out, HZ.out, if_neg (by simp [HQ.out]), List.append_nil]
          go_wp2_with (go_at_fn fn; ((with_reducible refine (HC.out).mono ?_); rintro e w3 ⟨rfl, rfl⟩))
          go_roundw
          case rel =>
            have REL : DelRel w B g n zs P (.int .i64 (i : Int)) (.int .i64 ((j : Int) + 1)) wr := ⟨i, j + 1, xs, rfl, by go_num, by omega, by omega, HRow.out, HN, Lib.hid (fun l hl => HS.out l (by omega)), HGr⟩
            (repeat apply Exists.intro)
            exact ⟨REL, rfl⟩
          case measure => simp [intOf]; omega
        | false =>
          have HN : Hid ((xs.set i z).take (i + 1) = (zs.take (j + 1)).filter fun x => !P x) := by
            show _ = _
            have hil : i < xs.length := by rw [HXL.out]; omega
            rw [HFS.out, HZ.out, if_pos (by simp [HQ.out]), ← HX.out, List.take_add_one, List.take_set_of_le (Nat.le_refl _), List.getElem?_set_self hil]
            rfl
          go_wp2_with (go_at_fn fn; ((with_reducible refine (HC.out).mono ?_); rintro e w3 ⟨rfl, rfl⟩))
          go_roundw
          case rel =>
            have REL : DelRel w B g n zs P (.int .i64 ((i : Int) + 1)) (.int .i64 ((j : Int) + 1)) (wr.setCell ⟨g, i, none⟩ (.int .i64 z)) := by
              refine ⟨i + 1, j + 1, xs.set i z, by go_num, by go_num, by omega, by omega, HRow.out.put i z, HN, Lib.hid (fun l hl => ?_), Lib.hid (grown_setCell HGr.out _ _)⟩
              rw [← HS.out l (by omega)]
              simp only [List.getD_eq_getElem?_getD, List.getElem?_set_ne (show i ≠ l by omega)]
            (repeat apply Exists.intro)
            exact ⟨REL, rfl⟩
          case measure => simp [intOf]; omega
      · obtain rfl : j = n := by omega
        have hin : i ≤ j := by omega
        have HF : Hid (xs.take i = zs.filter fun x => !P x) := by
          show _ = _
          rw [HX.out, List.take_of_length_le (by rw [HL.out]; exact Nat.le_refl _)]
        have hcl : ∀ ty, (Builtin.clear_ #[26] ty #[.slice (some ⟨g, i, none⟩) (j - i) (j - i)]).run Try.prog wr = .ok (.tuple #[]) (wr.setCells g i (List.replicate (j - i) (.int .i64 0))) :=
          fun ty => Lib.run_clear_slice wr _ _ ty _ Try.underlying26 Try.zeroValue3 rfl rfl g i _ _ (by omega) (fun t ht => by rw [hx.cell (k := i + t) (by omega)]; rfl) (fun t ht => hx.free _)
        have HRow := Lib.hid hx
        have in1 : (i : Int) ≤ (j : Int) := by omega
        clear hx
        go_wp2_with fail
        clear hcl
        go_ret
        obtain ⟨zs', r1, r2⟩ := rowClear (i := i) (j - i) i wr xs HRow.out (Nat.le_refl _)
        have o := rowShrink r1 hin
        rw [r2, HF.out] at o
        exact ⟨i, rfl, o, grownCells _ _ _ HGr.out⟩

end Go.Proofs.Ytnelcbjegbchkaa
