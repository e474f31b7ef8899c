/- The model's values of wires. For valid circuits with as many bits as inputs. -/
import Derived.Test.YtnelcbjegbchkaaCirM2
import Derived.Test.YtnelcbjegbchkaaCirG1
import Derived.Test.YtnelcbjegbchkaaLists
import Derived.Deep.AppendLies
import Derived.Deep.RegionLaw
import Derived.Deep.DeepCutAuto
namespace Go.Proofs.Ytnelcbjegbchkaa
open Go.RowKit
set_option maxRecDepth 100000

/-- An append of one number at a step of a region that draws. -/
theorem stepInt {ops : Array Oper} {o : Oper} {a : Act} {K : Act → World → Prop} {Q : Exit → Act → World → Prop} {E : Prop} (W : World) (hgd : o.guard = none) (s x : Operand)
    (ho : o.op = .call { callee := .builtin .append, args := #[s, x], argTypes := #[26, 26] }) (z : Int) (B : Nat) (v : Value) (n : Nat) (ys : List Int) (q : Nat) (hs : a.eval s = v)
    (hx : a.eval x = .slice (some ⟨q, 0, none⟩) 1 1) (hc : W.cell? ⟨q, 0, none⟩ = some (.int .i64 z)) (hown : W.ownsRow B 3 1 v n (vals ys)) (hn : n ≤ 16777216) (hB : B ≤ W.heap.size)
    (h : ∀ g cap w', Own w' B (some ⟨g, 0, none⟩) (n + 1) cap (ys ++ [z]) → Below B W w' → K (a.put o.dst (.slice (some ⟨g, 0, none⟩) (n + 1) cap)) w') :
    if Region.wanted o (yielded ops a.tmps) = true then Oper.wp Try.prog o a W K Q else E := by
  obtain ⟨i0, hi, hz0, hz1, hz2⟩ := info_parts infoInt
  have hlt := hown.lt
  refine step_append_lies W hgd s x _ ho B 3 i0 (.int .i64 0) 1 8 Try.underlying26 hi hz0 hz1 hz2 rfl (by decide) v n (vals ys) hs hown ⟨q, 0, none⟩ 1 1 [.int .i64 z] hx (by simp) ?_ (by simp [Value.oneCell']) (by omega) (by simp only [maxLen]; omega) (by omega) hB _ rfl ?_
  · intro j u hj
    match j, hj with
    | 0, hj => simp at hj; subst hj; simpa [Addr.add] using hc
  · intro g cap w' h1 h2 _ _
    have hl : ys.length = n := by have := h1.1; have h0 := hown.1; rw [vals_length] at h0; omega
    exact h g cap w' ⟨by simp [hl], by rw [vals_append]; exact h1⟩ ((Below.refl B W).grown h2 hB (fun k hk => (hlt k hk).1))

set_option maxHeartbeats 1000000 in
theorem ciJoin_any (A : Option Addr) (n c : Nat) (xs : List Int) (B : Option Addr) (m d : Nat) (ys : List Int) (w : World) (hx : Has w A n xs) (hn : n ≤ 16777216) (hnil : NilOk A n c) (hy : Has w B m ys) (hm : m ≤ 16777216) (hnil2 : NilOk B m d) :
    Calls Try.prog 211 #[.slice A n c, .slice B m d] w fun e w' => ∃ R c', e = .returned (.slice R (n + m) c') ∧ Own w' w.heap.size R (n + m) c' (xs ++ ys) ∧ Below w.heap.size w w' := by
  go_enter Try.func211, Try.ntmps211
  go_wp2_with fail
  refine (l1Own_all A n c xs w hx hn hnil).mono ?_
  rintro e w1 ⟨R1, c1, rfl, o1, b1⟩
  have hy1 := hy.below b1
  have own1 := o1.2
  go_wp2_with (at_builtin; refine appendMany w1 rfl (.tmp 6) (.tmp 7) rfl w.heap.size _ B n m d xs ys rfl own1 rfl hnil2 hy1 (by omega) (by omega) b1.size ?_; intro v2 w2 own2 b2)
  obtain ⟨R, c', rfl, ho⟩ := ownOf own2
  go_ret
  exact ⟨R, c', rfl, ho, b1.trans b2⟩

set_option maxHeartbeats 1000000 in
theorem ciPick_any (A : Option Addr) (n c : Nat) (xs : List Int) (B : Option Addr) (m d : Nat) (ys : List Int) (w : World) (hx : Has w A n xs) (_hn : n ≤ 16777216) (hy : Has w B m ys) (hm : m ≤ 16777216) (hin : ∀ k, k < ys.length → 0 ≤ ys.getD k 0 ∧ ys.getD k 0 < (n : Int)) :
    Calls Try.prog 81 #[.slice A n c, .slice B m d] w fun e w' => ∃ R c', e = .returned (.slice R m c') ∧ Own w' w.heap.size R m c' (pickL xs ys) ∧ Below w.heap.size w w' := by
  have hyl := hy.1
  have HI := Lib.hid hin
  have HYL := Lib.hid hyl
  clear hin hyl
  go_enter Try.func81, Try.ntmps81
  go_wp2_with fail
  go_loopw [5, 10] (fun v iv wr => ∃ k : Nat, k ≤ m ∧ iv = .int .i64 k ∧ wr.ownsRow w.heap.size 3 1 v k (vals ((pickL xs ys).take k)) ∧ Below w.heap.size w wr) (fun _ iv _ => m - (intOf iv).toNat)
  case atStart => exact ⟨0, Nat.zero_le _, rfl, World.ownsRow_nil _ _ _ _, Below.refl _ _⟩
  case round =>
    obtain ⟨k, hk, rfl, ho, bk⟩ := hrel
    have hpl : (pickL xs ys).length = m := by rw [pickL, List.length_map, HYL.out]
    by_cases hlt : k < m
    · obtain ⟨bd, i, rfl, hci, HIx⟩ := (hy.below bk).elem hlt
      obtain ⟨i0, i1⟩ : 0 ≤ i ∧ i < (n : Int) := by rw [HIx.out]; exact HI.out k (by rw [HYL.out]; exact hlt)
      obtain ⟨j, rfl⟩ : ∃ j : Nat, i = (j : Int) := ⟨i.toNat, by omega⟩
      obtain ⟨ad, z, rfl, hcz, HZ⟩ := (hx.below bk).elem (show j < n by omega)
      have hz : (pickL xs ys).take k ++ [z] = (pickL xs ys).take (k + 1) := by
        rw [List.take_add_one, List.getElem?_eq_getElem (by omega)]
        have : (pickL xs ys)[k]'(by omega) = z := by
          simp only [pickL, List.getElem_map]
          have e : ys[k]'(by have := HYL.out; omega) = (j : Int) := by rw [HIx.out]; simp [List.getD, List.getElem?_eq_getElem (show k < ys.length by have := HYL.out; omega)]
          rw [e, HZ.out]
          rfl
        rw [this]
        rfl
      have HZZ := Lib.hid hz
      have hs0 := bk.size
      have k0 : (0 : Int) ≤ (k : Int) := by omega
      have k1 : (k : Int) < (m : Int) := by omega
      clear hz hpl
      go_wp2_with (at_builtin; refine appendInt wr rfl (.tmp 14) (.tmp 19) rfl z w.heap.size _ k _ rfl rfl ho (by omega) hs0 ?_; intro v2 w2 own2 b2)
      rw [HZZ.out] at own2
      go_roundw
      case rel => exact ⟨k + 1, by omega, by go_num, own2, bk.trans b2⟩
      case measure => simp [intOf]; omega
    · obtain rfl : k = m := by omega
      rw [List.take_of_length_le (by omega)] at ho
      obtain ⟨R, c', rfl, ho'⟩ := ownOf ho
      go_wp2_with fail
      go_ret
      exact ⟨R, c', rfl, ho', bk⟩

set_option maxRecDepth 100000 in
set_option maxHeartbeats 4000000 in
theorem ciValues_any (v : Value) (C : Ci) (A : Option Addr) (m cA : Nat) (xs : List Int) (w : World) (h : HasC w v C) (hG : Good C) (hx : Has w A m xs) (hnil : NilOk A m cA) (hb : Bits xs) (hl : (m : Int) = C.ins) :
    Calls Try.prog 193 #[v, .slice A m cA] w fun e w' => ∃ R c', e = .returned (.slice R (m + C.gs.length) c') ∧ Own w' w.heap.size R (m + C.gs.length) c' (valsC C xs) ∧ Below w.heap.size w w' := by
  obtain ⟨G, n, c, O, q, d, rfl, hGs, hO, _, _, _, _⟩ := id h
  have hgl := hGs.1
  have hxl := hx.1
  have m40 : m ≤ 40 := by have := hG.a1; have := hG.b1; unfold Ci.ins at hl; omega
  have n300 : n ≤ 300 := by have := hG.g; omega
  have hres : valsC C xs = valsTo C xs n := by rw [valsC, hgl]
  rw [hgl, hres]
  have HGate : Hid (∀ k, k < n → gateOk ((m : Int) + (k : Int)) (C.gs.getD k g0) = true) := fun k hk => by rw [hl]; exact hG.gate k (by omega)
  have HBits : Hid (∀ k, Bits (valsTo C xs k)) := fun k => valsTo_bits hb k
  have HLen : Hid (∀ k, (valsTo C xs k).length = m + k) := fun k => by rw [valsTo_length, hxl]
  have B1 := belowNew w (.cells #[.int .i64 C.in0, .int .i64 C.in1, .slice G n c, .slice O q d] 34)
  have p1 := Blk.new w #[.int .i64 C.in0, .int .i64 C.in1, .slice G n c, .slice O q d] 34
  obtain ⟨W1, hW1⟩ : ∃ W, W = w.alloc (.cells #[.int .i64 C.in0, .int .i64 C.in1, .slice G n c, .slice O q d] 34) := ⟨_, rfl⟩
  rw [← hW1] at B1 p1
  have hx1 := hx.below B1
  clear h hG hO hgl hres hx hb hl
  go_enter Try.func193, Try.ntmps193
  go_wp2_with fail
  rw [← hW1]
  clear hW1
  refine (l1Own_all A m cA xs W1 hx1 (by omega) hnil).mono ?_
  rintro e w2 ⟨R2, c2, rfl, o2, b2⟩
  have o2' : Own w2 w.heap.size R2 m c2 xs := o2.mono B1.size
  have p2 := p1.below' b2
  have k2 := p2.cell (i := 2) rfl
  have B2 := B1.trans (b2.mono B1.size)
  clear p1 B1 hx1 o2 b2 p2
  go_wp2_with fail
  go_loopw [5, 13] (fun vv iv wr => ∃ (k : Nat) (R : Option Addr) (c' : Nat), k ≤ n ∧ iv = .int .i64 k ∧ vv = .slice R (m + k) c' ∧ Own wr w.heap.size R (m + k) c' (valsTo C xs k) ∧ Below w.heap.size w wr) (fun _ iv _ => n - (intOf iv).toNat)
  case atStart => exact ⟨0, R2, c2, Nat.zero_le _, rfl, rfl, o2', B2⟩
  case round =>
    obtain ⟨k, R, c', hk, rfl, rfl, ho, bk⟩ := hrel
    by_cases hlt : k < n
    · obtain ⟨ad, x, y, z, rfl, hgx, hgy, hgz, HE⟩ := (hGs.below bk).elem hlt
      have hgate := HGate.out k hlt
      rw [HE.out] at hgate
      have b3 := belowNew wr (.cells #[.int .i64 x, .int .i64 y, .int .i64 z] 72)
      have y3 := Blk.new wr #[.int .i64 x, .int .i64 y, .int .i64 z] 72
      have ho3 := ho.below b3
      have q0 : (0 : Int) ≤ (k : Int) := by omega
      have q1 : (k : Int) < (n : Int) := by omega
      obtain ⟨w3, hw3⟩ : ∃ W, W = wr.alloc (.cells #[.int .i64 x, .int .i64 y, .int .i64 z] 72) := ⟨_, rfl⟩
      rw [← hw3] at b3 y3 ho3
      have B3 := bk.trans (b3.mono bk.size)
      have s0 : w.heap.size ≤ w3.heap.size := B3.size
      have g0c := y3.cell (i := 0) rfl
      have g1c := y3.cell (i := 1) rfl
      have g2c := y3.cell (i := 2) rfl
      clear b3 ho bk y3
      rcases gateOk_yes hgate with ⟨hx01, hy, hz⟩ | ⟨rfl, hy, rfl⟩ | ⟨rfl, rfl, rfl⟩
      · obtain ⟨jy, rfl⟩ : ∃ j : Nat, y = (j : Int) := ⟨y.toNat, by omega⟩
        obtain ⟨jz, rfl⟩ : ∃ j : Nat, z = (j : Int) := ⟨z.toNat, by omega⟩
        obtain ⟨rd, va, rfl, hcy, HY⟩ := ho3.has.elem (k := jy) (by omega)
        obtain ⟨rd', vb, e, hcz, HZ⟩ := ho3.has.elem (k := jz) (by omega)
        injection e with e
        subst e
        have a0 : (0 : Int) ≤ (jy : Int) := by omega
        have a1 : (jy : Int) < (m : Int) + (k : Int) := by omega
        have a2 : (0 : Int) ≤ (jz : Int) := by omega
        have a3 : (jz : Int) < (m : Int) + (k : Int) := by omega
        clear hgate hy hz
        rcases hx01 with rfl | rfl
        · obtain ⟨zz, hzz⟩ : ∃ zz : Int, (va + vb) % 2 = zz := ⟨_, rfl⟩
          have HV : Hid (valsTo C xs k ++ [zz] = valsTo C xs (k + 1)) := by
            show _ = _
            rw [valsTo, HE.out, gval, ← hzz, HY.out, HZ.out]
            simp
          have bva : va = 0 ∨ va = 1 := by rw [HY.out]; exact HBits.out k jy (by rw [HLen.out]; omega)
          have bvb : vb = 0 ∨ vb = 1 := by rw [HZ.out]; exact HBits.out k jz (by rw [HLen.out]; omega)
          have hbx : bits BinOp.xor IntKind.i64 va vb = zz := by rw [← hzz]; rcases bva with rfl | rfl <;> rcases bvb with rfl | rfl <;> decide
          clear hzz bva bvb HY HZ HE
          go_wp2_with fail
          rw [← hw3]
          clear hw3
          go_region_law (first | (refine stepInt (w3.alloc (.cells #[.int .i64 zz] 3)).drew rfl (.tmp 24) (.tmp 36) rfl zz w.heap.size _ (m + k) (valsTo C xs k) w3.heap.size (by simp [Act.eval]) (by simp [Act.eval]) ((Blk.new w3 #[.int .i64 zz] 3).cell (i := 0) rfl) (ho3.below (belowNew w3 (.cells #[.int .i64 zz] 3))).2 (by omega) (Nat.le_trans s0 (belowNew w3 (.cells #[.int .i64 zz] 3)).size) ?_; intro g5 c5 w5 own5 b5))
          all_goals
            rw [HV.out] at own5
            have b6 : Below w.heap.size w3 w5 := (((Below.refl w.heap.size w3).alloc s0 (.cells #[.int .i64 zz] 3)).drew).trans b5
            have B6 : Below w.heap.size w w5 := B3.trans b6
            go_wp2_with fail
            go_roundw
            case rel => exact ⟨k + 1, _, c5, by omega, by go_num, rfl, own5, B6⟩
            case measure => simp [intOf]; omega
        · obtain ⟨zz, hzz⟩ : ∃ zz : Int, va * vb = zz := ⟨_, rfl⟩
          have HV : Hid (valsTo C xs k ++ [zz] = valsTo C xs (k + 1)) := by
            show _ = _
            rw [valsTo, HE.out, gval, ← hzz, HY.out, HZ.out]
            simp
          have bva : va = 0 ∨ va = 1 := by rw [HY.out]; exact HBits.out k jy (by rw [HLen.out]; omega)
          have bvb : vb = 0 ∨ vb = 1 := by rw [HZ.out]; exact HBits.out k jz (by rw [HLen.out]; omega)
          have hbx : bits BinOp.and IntKind.i64 va vb = zz := by rw [← hzz]; rcases bva with rfl | rfl <;> rcases bvb with rfl | rfl <;> decide
          clear hzz bva bvb HY HZ HE
          go_wp2_with fail
          rw [← hw3]
          clear hw3
          go_region_law (first | (refine stepInt (w3.alloc (.cells #[.int .i64 zz] 3)).drew rfl (.tmp 40) (.tmp 52) rfl zz w.heap.size _ (m + k) (valsTo C xs k) w3.heap.size (by simp [Act.eval]) (by simp [Act.eval]) ((Blk.new w3 #[.int .i64 zz] 3).cell (i := 0) rfl) (ho3.below (belowNew w3 (.cells #[.int .i64 zz] 3))).2 (by omega) (Nat.le_trans s0 (belowNew w3 (.cells #[.int .i64 zz] 3)).size) ?_; intro g5 c5 w5 own5 b5))
          all_goals
            rw [HV.out] at own5
            have b6 : Below w.heap.size w3 w5 := (((Below.refl w.heap.size w3).alloc s0 (.cells #[.int .i64 zz] 3)).drew).trans b5
            have B6 : Below w.heap.size w w5 := B3.trans b6
            go_wp2_with fail
            go_roundw
            case rel => exact ⟨k + 1, _, c5, by omega, by go_num, rfl, own5, B6⟩
            case measure => simp [intOf]; omega
      · obtain ⟨jy, rfl⟩ : ∃ j : Nat, y = (j : Int) := ⟨y.toNat, by omega⟩
        obtain ⟨rd, va, rfl, hcy, HY⟩ := ho3.has.elem (k := jy) (by omega)
        have a0 : (0 : Int) ≤ (jy : Int) := by omega
        have a1 : (jy : Int) < (m : Int) + (k : Int) := by omega
        have bva : va = 0 ∨ va = 1 := by rw [HY.out]; exact HBits.out k jy (by rw [HLen.out]; omega)
        obtain ⟨zz, hzz⟩ : ∃ zz : Int, 1 - va = zz := ⟨_, rfl⟩
        have HV : Hid (valsTo C xs k ++ [zz] = valsTo C xs (k + 1)) := by
          show _ = _
          rw [valsTo, HE.out, gval, ← hzz, HY.out]
          simp
        have hbx : IntKind.i64.wrap (1 - va) = zz := by rw [wrapIn (by omega) (by omega)]; exact hzz
        clear hgate hy hzz bva HE HY
        go_upto_region 12 with fail
        rw [← hw3]
        clear hw3
        go_wp2_with (at_builtin; refine appendInt w3 rfl (.tmp 56) (.tmp 63) rfl zz w.heap.size _ (m + k) _ rfl rfl ho3.2 (by omega) s0 ?_; intro v5 w5 own5 b5)
        rw [HV.out] at own5
        obtain ⟨R5, c5, rfl, ho5⟩ := ownOf own5
        go_roundw
        case rel => exact ⟨k + 1, R5, c5, by omega, by go_num, rfl, ho5, B3.trans b5⟩
        case measure => simp [intOf]; omega
      · have HV : Hid (valsTo C xs k ++ [1] = valsTo C xs (k + 1)) := by
          show _ = _
          rw [valsTo, HE.out, gval]
          rfl
        clear hgate HE
        go_upto_region 6 with fail
        rw [← hw3]
        clear hw3
        go_wp2_with (at_builtin; refine appendInt w3 rfl (.tmp 19) (.tmp 20) rfl 1 w.heap.size _ (m + k) _ rfl rfl ho3.2 (by omega) s0 ?_; intro v5 w5 own5 b5)
        rw [HV.out] at own5
        obtain ⟨R5, c5, rfl, ho5⟩ := ownOf own5
        go_roundw
        case rel => exact ⟨k + 1, R5, c5, by omega, by go_num, rfl, ho5, B3.trans b5⟩
        case measure => simp [intOf]; omega
    · obtain rfl : k = n := by omega
      go_wp2_with fail
      go_ret
      exact ⟨R, c', rfl, ho, bk⟩

end Go.Proofs.Ytnelcbjegbchkaa
