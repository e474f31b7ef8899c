/- The model's widths of all lines, its results' widths, and whether a list of lines is a program. For lists of at most 1048576 lines. -/
import Derived.Test.YtcbofogmfelpkaaDoorLnG3
namespace Go.Proofs.YtcbofogmfelpkaaDoor
open Go Go.RowKit
set_option maxRecDepth 100000

/-- An append of one number at a step of a region that draws. -/
theorem stepIntL {ops : Array Oper} {o : Oper} {a : Act} {K : Act → World → Prop} {Q : Exit → Act → World → Prop} {E : Prop} (W : World) (hgd : o.guard = none) (s x : Operand)
    (ho : o.op = .call { callee := .builtin .append, args := #[s, x], argTypes := #[32, 32] }) (z : Int) (B : Nat) (v : Value) (n : Nat) (ys : List Int) (q : Nat) (hs : a.eval s = v)
    (hx : a.eval x = .slice (some ⟨q, 0, none⟩) 1 1) (hc : W.cell? ⟨q, 0, none⟩ = some (.int .i64 z)) (hown : W.ownsRow B 3 1 v n (vals ys)) (hn : n ≤ 16777216) (hB : B ≤ W.heap.size)
    (h : ∀ g cap w', Own w' B (some ⟨g, 0, none⟩) (n + 1) cap (ys ++ [z]) → Below B W w' → K (a.put o.dst (.slice (some ⟨g, 0, none⟩) (n + 1) cap)) w') :
    if Region.wanted o (yielded ops a.tmps) = true then Oper.wp Tryd.prog o a W K Q else E := by
  obtain ⟨i0, hi, hz0, hz1, hz2⟩ := info_parts infoInt
  have hlt := hown.lt
  refine step_append_lies W hgd s x _ ho B 3 i0 (.int .i64 0) 1 8 Tryd.underlying32 hi hz0 hz1 hz2 rfl (by decide) v n (vals ys) hs hown ⟨q, 0, none⟩ 1 1 [.int .i64 z] hx (by simp) ?_ (by simp [Value.oneCell']) (by omega) (by simp only [maxLen]; omega) (by omega) hB _ rfl ?_
  · intro j u hj
    match j, hj with
    | 0, hj => simp at hj; subst hj; simpa [Addr.add] using hc
  · intro g cap w' h1 h2 _ _
    have hl : ys.length = n := by have := h1.1; have h0 := hown.1; rw [vals_length] at h0; omega
    exact h g cap w' ⟨by simp [hl], by rw [vals_append]; exact h1⟩ ((Below.refl B W).grown h2 hB (fun k hk => (hlt k hk).1))

theorem HasL.take {w : World} {A : Option Addr} {n k : Nat} {ls : List Ln} (h : HasL w A n ls) (hk : k ≤ n) : HasL w A k (ls.take k) := by
  refine ⟨by rw [List.length_take, h.1]; omega, fun h0 => ?_⟩
  obtain ⟨ad, e, hb, hc⟩ := h.2 (by omega)
  refine ⟨ad, e, hb, fun j hj => ?_⟩
  have e : lnAt (ls.take k) j = lnAt ls j := by simp [lnAt, List.getD_eq_getElem?_getD, hj]
  rw [e]
  exact hc j (by omega)

set_option maxRecDepth 100000 in
set_option maxHeartbeats 4000000 in
theorem laWidths_any (A : Option Addr) (n c : Nat) (ls : List Ln) (w : World) (h : HasL w A n ls) (hn : n ≤ 1048576) (hnc : n ≤ c) (hz : ∀ j, j < n → FitL (lnAt ls j)) :
    Calls Tryd.prog 54 #[.slice A n c] w fun e w' => ∃ R c', e = .returned (.slice R n c') ∧ Own w' w.heap.size R n c' (widths ls) ∧ Below w.heap.size w w' := by
  have HH := Lib.hid h
  have HL : Hid (ls.length = n) := h.1
  have HZ := Lib.hid hz
  have HB := Lib.hid (Below.refl w.heap.size w)
  have HO : Hid (Own w w.heap.size none 0 0 (widthsTo ls 0)) := Own.nil_ _ _
  clear h hz
  go_enter Tryd.func54, Tryd.ntmps54
  go_wp2_with fail
  go_loopw [3, 8] (fun v i wr => ∃ (k : Nat) (R : Option Addr) (c' : Nat), k ≤ n ∧ i = .int .i64 k ∧ v = .slice R k c' ∧ Own wr w.heap.size R k c' (widthsTo ls k) ∧ Below w.heap.size w wr) (fun _ i _ => n - (intOf i).toNat)
  case atStart => exact ⟨0, none, 0, Nat.zero_le _, rfl, rfl, HO.out, HB.out⟩
  case round =>
    obtain ⟨k, R, c', hk, rfl, rfl, ho, bk⟩ := hrel
    by_cases hlt : k < n
    · obtain ⟨ad, kd, nm, o, ps, py, wd, vl, P, q, d, rfl, hc, hp, _, _, HT⟩ := (HH.out.below bk).line hlt
      obtain ⟨c0, c1, c2, c3, c4, c5, c6⟩ := hc.cells
      have hfit := HZ.out k hlt
      rw [HT.out] at hfit
      have hpl : q ≤ 16777216 := by have h1 := hp.1; have h2 := hfit.plen; simp only at h2; omega
      have hnl : nm.size ≤ 16777216 := by have h2 := hfit.name; simp only at h2; omega
      have k0 : (0 : Int) ≤ (k : Int) := by omega
      have k1 : (k : Int) < (n : Int) := by omega
      have kc : (k : Int) ≤ (c : Int) := by omega
      have b2 := belowNew wr (.cells #[.int .i64 kd, .string nm, .string o, .slice P q d, .int .i64 py, .int .i64 wd, .int .i64 vl] 53)
      have y2 := Blk.new wr #[.int .i64 kd, .string nm, .string o, .slice P q d, .int .i64 py, .int .i64 wd, .int .i64 vl] 53
      have ho2 := ho.below b2
      have hp2 := hp.below b2
      have hl2 := ((HH.out.below bk).below b2).take (Nat.le_of_lt hlt)
      obtain ⟨W2, hW2⟩ : ∃ W, W = wr.alloc (.cells #[.int .i64 kd, .string nm, .string o, .slice P q d, .int .i64 py, .int .i64 wd, .int .i64 vl] 53) := ⟨_, rfl⟩
      rw [← hW2] at b2 y2 ho2 hp2 hl2
      have B2 := bk.trans (b2.mono bk.size)
      obtain ⟨⟨d0, d1, d2, d3, d4, d5, d6⟩, _⟩ := y2.seven
      have s2 := B2.size
      have D : Below W2.heap.size W2 W2.drew := (Below.refl _ W2).drew
      have HWd := Lib.hid (laWidth_any (some ad) k c (ls.take k) R c' (widthsTo ls k) kd nm o ps py wd vl P q d W2.drew (hl2.below D) (by omega) (ho2.has.below D) (widthsTo_range ls k) (hp2.below D) hpl hnl)
      obtain ⟨z, hz⟩ : ∃ z, widthL (ls.take k) (widthsTo ls k) ⟨kd, nm, o, ps, py, wd, vl⟩ = z := ⟨_, rfl⟩
      rw [hz] at HWd
      have HV : Hid (widthsTo ls k ++ [z] = widthsTo ls (k + 1)) := by show _ = _; rw [widthsTo, HT.out, hz]
      clear hc ho b2 bk hp hp2 hl2 hfit y2 hz
      go_upto_region 5 with fail
      rw [← hW2]
      clear hW2 c0 c1 c2 c3 c4 c5 c6
      first
        | (go_region_law (first
            | (go_simp; go_at_call 86; refine (HWd.out).mono ?_; rintro e w3 ⟨rfl, b3⟩; have B3 := D.trans (b3.mono D.size); have ho3 := ho2.below B3; have s3 := B3.size)
            | (refine stepIntL (w3.alloc (.cells #[.int .i64 z] 3)) rfl (.tmp 13) (.tmp 20) rfl z w.heap.size _ k (widthsTo ls k) w3.heap.size (by simp [Act.eval]) (by simp [Act.eval]) ((Blk.new w3 #[.int .i64 z] 3).cell (i := 0) rfl) (ho3.below (belowNew w3 (.cells #[.int .i64 z] 3))).2 (by omega) (by simp; omega) ?_; intro g5 c5 w5 own5 b5)))
        | fail
      all_goals
        rw [HV.out] at own5
        have B5 := (B2.trans (B3.mono s2)).trans (((belowNew w3 (.cells #[.int .i64 z] 3)).mono (by omega)).trans b5)
        go_wp2_with fail
        go_roundw
        case rel => exact ⟨k + 1, _, c5, by omega, by go_num, rfl, own5, B5⟩
        case measure => simp [intOf]; omega
    · obtain rfl : k = n := by omega
      have HF : Hid (Own wr w.heap.size R k c' (widths ls)) := by show Own _ _ _ _ _ _; rw [widths, HL.out]; exact ho
      go_wp2_with fail
      go_ret
      exact ⟨R, c', rfl, HF.out, bk⟩

/-! ## the results' elements -/
def outsTo (ls : List Ln) (zs : List Int) (k : Nat) : List Int := ((List.range k).filter fun j => decide ((lnAt ls j).kind = 6)).map fun j => zs.getD j 0
theorem outsTo_step (ls : List Ln) (zs : List Int) (k : Nat) : outsTo ls zs (k + 1) = outsTo ls zs k ++ (if (lnAt ls k).kind = 6 then [zs.getD k 0] else []) := by
  rw [outsTo, List.range_succ, List.filter_append, List.map_append]
  congr 1
  by_cases h : (lnAt ls k).kind = 6
  · rw [if_pos h]; simp [h]
  · rw [if_neg h]; simp [h]
theorem outsTo_all (ls : List Ln) (zs : List Int) : outsTo ls zs ls.length = outsOf ls zs := rfl

set_option maxRecDepth 100000 in
set_option maxHeartbeats 4000000 in
theorem laOuts_any (A : Option Addr) (n c : Nat) (ls : List Ln) (w : World) (h : HasL w A n ls) (hn : n ≤ 1048576) (hnc : n ≤ c) (hz : ∀ j, j < n → FitL (lnAt ls j)) :
    Calls Tryd.prog 61 #[.slice A n c] w fun e w' => ∃ R m c', e = .returned (.slice R m c') ∧ Own w' w.heap.size R m c' (outsOf ls (widths ls)) ∧ m ≤ n ∧ Below w.heap.size w w' := by
  have HW := Lib.hid (laWidths_any A n c ls w h hn hnc hz)
  have HH := Lib.hid h
  have HL : Hid (ls.length = n) := h.1
  have HO : Hid (∀ W : World, Own W W.heap.size none 0 0 (outsTo ls (widths ls) 0)) := fun W => Own.nil_ _ _
  clear h hz
  go_enter Tryd.func61, Tryd.ntmps61
  go_wp2_with fail
  refine (HW.out).mono ?_
  rintro e w1 ⟨R0, c0, rfl, o0, b0⟩
  have HB0 := Lib.hid b0
  have HO0 := Lib.hid o0.has
  have s0 := b0.size
  clear HW o0 b0
  go_wp2_with fail
  go_loopw [3, 9] (fun v i wr => ∃ (k : Nat) (R : Option Addr) (m c' : Nat), k ≤ n ∧ m ≤ k ∧ i = .int .i64 k ∧ v = .slice R m c' ∧ Own wr w1.heap.size R m c' (outsTo ls (widths ls) k) ∧ Below w1.heap.size w1 wr) (fun _ i _ => n - (intOf i).toNat)
  case atStart => exact ⟨0, none, 0, 0, Nat.zero_le _, Nat.le_refl _, rfl, rfl, HO.out _, Below.refl _ _⟩
  case round =>
    obtain ⟨k, R, m, c', hk, hmk, rfl, rfl, ho, bk⟩ := hrel
    by_cases hlt : k < n
    · obtain ⟨ad, kd, nm, o, ps, py, wd, vl, P, q, d, rfl, hc, _, _, _, HT⟩ := ((HH.out.below HB0.out).below bk).line hlt
      obtain ⟨c0, c1, c2, c3, c4, c5, c6⟩ := hc.cells
      obtain ⟨rd, z, rfl, hcz, HZ⟩ := (HO0.out.below bk).elem hlt
      have k0 : (0 : Int) ≤ (k : Int) := by omega
      have k1 : (k : Int) < (n : Int) := by omega
      have hst := outsTo_step ls (widths ls) k
      rw [HT.out, ← HZ.out] at hst
      have sz := bk.size
      clear hc
      by_cases hk6 : kd = 6
      · subst hk6
        have HS : Hid (outsTo ls (widths ls) (k + 1) = outsTo ls (widths ls) k ++ [z]) := by show _ = _; rw [hst]; rfl
        clear hst
        go_wp2_with (at_builtin; refine appendInt wr rfl (.tmp 20) (.tmp 22) rfl z w1.heap.size _ m _ rfl rfl ho.2 (by omega) sz ?_; intro v3 w3 own3 b3)
        rw [← HS.out] at own3
        obtain ⟨R3, c3, rfl, ho3⟩ := ownOf own3
        go_roundw
        case rel => exact ⟨k + 1, R3, m + 1, c3, by omega, by omega, by go_num, rfl, ho3, bk.trans b3⟩
        case measure => simp [intOf]; omega
      · have HS : Hid (outsTo ls (widths ls) (k + 1) = outsTo ls (widths ls) k) := by show _ = _; rw [hst]; simp [hk6]
        have q6 : (kd == 6) = false := by simpa using hk6
        clear hst hk6
        go_wp2_with fail
        go_roundw
        case rel => exact ⟨k + 1, R, m, c', by omega, by omega, by go_num, rfl, by rw [HS.out]; exact ho, bk⟩
        case measure => simp [intOf]; omega
    · obtain rfl : k = n := by omega
      have HF : Hid (Own wr w.heap.size R m c' (outsOf ls (widths ls))) := by show Own _ _ _ _ _ _; rw [← outsTo_all, HL.out]; exact ho.mono s0
      have BW : Below w.heap.size w wr := HB0.out.trans (bk.mono s0)
      go_wp2_with fail
      go_ret
      exact ⟨R, m, c', rfl, HF.out, hmk, BW⟩

end Go.Proofs.YtcbofogmfelpkaaDoor
