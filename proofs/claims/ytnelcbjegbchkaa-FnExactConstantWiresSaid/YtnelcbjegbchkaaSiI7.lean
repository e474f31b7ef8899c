/- The program's ConstantWires. For every circuit of at most 1048576 gates and outs. -/
import Derived.Test.YtnelcbjegbchkaaSiM3
import Derived.Test.YtnelcbjegbchkaaSiK1
import Derived.Test.YtnelcbjegbchkaaSiK2
import Derived.Test.YtnelcbjegbchkaaRet
import Derived.Test.YtnelcbjegbchkaaCirI9
namespace Go.Proofs.Ytnelcbjegbchkaa
open Go.RowKit Go.Shelf
set_option maxRecDepth 100000

set_option maxHeartbeats 1000000 in
/-- The value of a gate whose wires are known. -/
theorem gateValueP_any (x y z : Int) (A : Option Addr) (m c : Nat) (vs : List Int) (u : Int) (w : World) (hg : gateOk (m : Int) (x, y, z) = true) (hx : Has w A m vs) (hb : ∀ q ∈ partsOf (x, y, z), vs.getD q.toNat 0 = 0 ∨ vs.getD q.toNat 0 = 1) (hu : gval vs (x, y, z) = u) :
    Calls Try.prog 151 #[.agg #[.int .i64 x, .int .i64 y, .int .i64 z], .slice A m c] w fun e w' => e = .returned (.int .i64 u) ∧ Below w.heap.size w w' := by
  have b1 := belowNew w (.cells #[.int .i64 x, .int .i64 y, .int .i64 z] 72)
  have y1 := Blk.new w #[.int .i64 x, .int .i64 y, .int .i64 z] 72
  have hx1 := hx.below b1
  obtain ⟨W1, hW1⟩ : ∃ W, W = w.alloc (.cells #[.int .i64 x, .int .i64 y, .int .i64 z] 72) := ⟨_, rfl⟩
  rw [← hW1] at b1 y1 hx1
  have g0c := y1.cell (i := 0) rfl
  have g1c := y1.cell (i := 1) rfl
  have g2c := y1.cell (i := 2) rfl
  have HU := Lib.hid hu
  clear y1 hx hu
  rcases gateOk_yes hg with ⟨hx01, hy, hz⟩ | ⟨rfl, hy, rfl⟩ | ⟨rfl, rfl, rfl⟩
  · obtain ⟨jy, rfl⟩ : ∃ j : Nat, y = (j : Int) := ⟨y.toNat, by omega⟩
    obtain ⟨jz, rfl⟩ : ∃ j : Nat, z = (j : Int) := ⟨z.toNat, by omega⟩
    obtain ⟨rd, va, rfl, hcy, HY⟩ := hx1.elem (k := jy) (by omega)
    obtain ⟨rd', vb, e, hcz, HZ⟩ := hx1.elem (k := jz) (by omega)
    injection e with e
    subst e
    have a0 : (0 : Int) ≤ (jy : Int) := by omega
    have a1 : (jy : Int) < (m : Int) := by omega
    have a2 : (0 : Int) ≤ (jz : Int) := by omega
    have a3 : (jz : Int) < (m : Int) := by omega
    have bva : va = 0 ∨ va = 1 := by rw [HY.out]; exact hb (jy : Int) (by rw [partsTwo hx01]; simp)
    have bvb : vb = 0 ∨ vb = 1 := by rw [HZ.out]; exact hb (jz : Int) (by rw [partsTwo hx01]; simp)
    clear hg hy hz hb
    rcases hx01 with rfl | rfl
    · have hbx : bits BinOp.xor IntKind.i64 va vb = u := by
        rw [← HU.out, gval]
        simp only [Int.toNat_natCast, ← HY.out, ← HZ.out]
        rcases bva with rfl | rfl <;> rcases bvb with rfl | rfl <;> decide
      clear bva bvb HY HZ HU
      go_enter Try.func151, Try.ntmps151
      go_wp2_with fail
      rw [← hW1]
      clear hW1
      go_quiet (fail)
      go_wp2
      go_ret
      exact ⟨rfl, below_drewN b1 _⟩
    · have hbx : bits BinOp.and IntKind.i64 va vb = u := by
        rw [← HU.out, gval]
        simp only [Int.toNat_natCast, ← HY.out, ← HZ.out]
        rcases bva with rfl | rfl <;> rcases bvb with rfl | rfl <;> decide
      clear bva bvb HY HZ HU
      go_enter Try.func151, Try.ntmps151
      go_wp2_with fail
      rw [← hW1]
      clear hW1
      go_quiet (fail)
      go_wp2
      go_ret
      exact ⟨rfl, below_drewN b1 _⟩
  · obtain ⟨jy, rfl⟩ : ∃ j : Nat, y = (j : Int) := ⟨y.toNat, by omega⟩
    obtain ⟨rd, va, rfl, hcy, HY⟩ := hx1.elem (k := jy) (by omega)
    have a0 : (0 : Int) ≤ (jy : Int) := by omega
    have a1 : (jy : Int) < (m : Int) := by omega
    have bva : va = 0 ∨ va = 1 := by rw [HY.out]; exact hb (jy : Int) (by rw [partsOne]; simp)
    have hbx : IntKind.i64.wrap (1 - va) = u := by
      rw [wrapIn (by omega) (by omega), ← HU.out, gval]
      simp only [Int.toNat_natCast, ← HY.out]
      rfl
    clear hg hy hb bva HY HU
    go_enter Try.func151, Try.ntmps151
    go_upto_region 7 with fail
    rw [← hW1]
    clear hW1
    go_wp2
    go_ret
    exact ⟨rfl, b1⟩
  · obtain rfl : 1 = u := HU.out
    clear hg hb HU
    go_enter Try.func151, Try.ntmps151
    go_upto_region 8 with fail
    rw [← hW1]
    clear hW1
    go_wp2
    go_ret
    exact ⟨rfl, b1⟩

set_option maxHeartbeats 1000000 in
theorem unknownClosure_any (A : Option Addr) (m c : Nat) (vs : List Int) (bx i : Nat) (w : World) (h : Has w A m vs) (hi : i < m) (hb : w.cell? ⟨bx, 0, none⟩ = some (.slice A m c)) :
    Calls Try.prog 150 #[.int .i64 (i : Int), .pointer (some ⟨bx, 0, none⟩)] w fun e w' => e = .returned (.bool (decide (vs.getD i 0 = -1))) ∧ w = w' := by
  obtain ⟨ad, y, rfl, hc, HY⟩ := h.elem hi
  have k0 : (0 : Int) ≤ (i : Int) := by omega
  have k1 : (i : Int) < (m : Int) := by omega
  go_enter Try.func150, Try.ntmps150
  go_wp2_with fail
  go_ret
  refine ⟨retBl ?_, rfl⟩
  rw [← HY.out]
  by_cases e : y = -1
  · subst e; rfl
  · rw [decide_eq_false e]; simpa using e

set_option maxHeartbeats 1000000 in
theorem containsInts_any (fn : Nat) (lb : Array Value) (eg : ∀ args w, (callFunc fn args).run Try.prog w = .ok (.enter fn args) w) (P : Int → Bool) (A : Option Addr) (n c : Nat) (zs : List Int) (r : Option Nat) (b : Bool) (w : World) (h : Has w A n zs) (hn : n ≤ 16777216) (hcl : Tells fn lb P zs r w) (hb : zs.any P = b) :
    Calls Try.prog 145 #[.slice A n c, .func (.func fn) #[] lb] w fun e w' => e = .returned (.bool b) ∧ w = w' := by
  have HI := Lib.hid (indexInts_any fn lb eg P A n c zs r w h hn hcl)
  have HL : Hid (zs.length = n) := h.1
  have HB := Lib.hid hb
  clear hcl hb eg h
  go_enter Try.func145, Try.ntmps145
  go_wp2_with fail
  refine (HI.out).mono ?_
  rintro e w2 ⟨i, rfl, rfl, HC⟩
  have HF : Hid (decide (0 ≤ i) = b) := by
    show _ = _
    rw [← HB.out]
    rcases HC.out with ⟨rfl, h0⟩ | ⟨r, hr, rfl, h1, h0⟩
    · rw [decide_eq_false (by omega)]
      symm
      rw [List.any_eq_false]
      intro y hy
      obtain ⟨k, hk, rfl⟩ := List.getElem_of_mem hy
      have := h0 k (by rw [← HL.out]; exact hk)
      simpa [List.getD, hk] using this
    · rw [decide_eq_true (by omega)]
      symm
      rw [List.any_eq_true]
      have hk : r < zs.length := by rw [HL.out]; exact hr
      exact ⟨zs[r], List.getElem_mem _, by simpa [List.getD, hk] using h1⟩
  clear HC
  go_wp2_with fail
  go_ret
  exact ⟨retBl HF.out, rfl⟩

theorem parts_in {m x y z : Int} (hg : gateOk m (x, y, z) = true) : ∀ q ∈ partsOf (x, y, z), 0 ≤ q ∧ q < m := by
  intro q hq
  rcases gateOk_yes hg with ⟨hx1, hy, hz⟩ | ⟨rfl, hy, _⟩ | ⟨rfl, _, _⟩
  · rw [partsTwo hx1] at hq
    rcases List.mem_cons.1 hq with e | h
    · rw [e]; exact hy
    · rw [List.mem_singleton.1 h]; exact hz
  · rw [partsOne] at hq
    rw [List.mem_singleton.1 hq]; exact hy
  · exact absurd hq (by simp [partsOf])

theorem knownVal {v : List Int} {m x y z : Int} (hg : gateOk m (x, y, z) = true) (hb : ∀ q ∈ partsOf (x, y, z), v.getD q.toNat 0 = 0 ∨ v.getD q.toNat 0 = 1) : gval v (x, y, z) = conV v (x, y, z) := by
  rcases gateOk_yes hg with ⟨hx01, _, _⟩ | ⟨rfl, _, rfl⟩ | ⟨rfl, rfl, rfl⟩
  · have h1 := hb y (by rw [partsTwo hx01]; simp)
    have h2 := hb z (by rw [partsTwo hx01]; simp)
    clear hb hg
    unfold gval conV
    dsimp only
    by_cases hyz : y = z
    · subst hyz
      generalize v.getD y.toNat 0 = a at *
      rcases hx01 with rfl | rfl <;> rcases h1 with rfl | rfl <;> simp
    · rw [if_neg hyz]
      generalize v.getD y.toNat 0 = a at *
      generalize v.getD z.toNat 0 = b at *
      rcases hx01 with rfl | rfl <;> rcases h1 with rfl | rfl <;> rcases h2 with rfl | rfl <;> simp
  · have h1 := hb y (by rw [partsOne]; simp)
    clear hb hg
    unfold gval conV
    dsimp only
    generalize v.getD y.toNat 0 = a at *
    rcases h1 with rfl | rfl <;> simp
  · simp [gval, conV]

set_option maxRecDepth 100000 in
set_option maxHeartbeats 2000000 in
theorem constantOf_any (x y z : Int) (A : Option Addr) (m c : Nat) (vs : List Int) (u : Int) (w : World) (hg : gateOk (m : Int) (x, y, z) = true) (hx : Has w A m vs) (hc : ∀ i : Nat, Con (vs.getD i 0)) (hu : conV vs (x, y, z) = u) :
    Calls Try.prog 76 #[.agg #[.int .i64 x, .int .i64 y, .int .i64 z], .slice A m c] w fun e w' => e = .returned (.int .i64 u) ∧ Below w.heap.size w w' := by
  have b1 := belowNew w (.cells #[.int .i64 x, .int .i64 y, .int .i64 z] 72)
  have p1 := Blk.new w #[.int .i64 x, .int .i64 y, .int .i64 z] 72
  obtain ⟨W1, hW1⟩ : ∃ W, W = w.alloc (.cells #[.int .i64 x, .int .i64 y, .int .i64 z] 72) := ⟨_, rfl⟩
  have s1 : W1.heap.size = w.heap.size + 1 := by rw [hW1]; simp
  rw [← hW1] at b1 p1
  have b2 := belowNew W1 (.cells #[.slice A m c] 26)
  have r2 := Blk.newAt (k := w.heap.size + 1) W1 #[.slice A m c] 26 s1.symm
  have p2 := p1.below' b2
  obtain ⟨W2, hW2⟩ : ∃ W, W = W1.alloc (.cells #[.slice A m c] 26) := ⟨_, rfl⟩
  have s2 : W2.heap.size = w.heap.size + 2 := by rw [hW2]; simp [s1]
  rw [← hW2] at b2 r2 p2
  have B2 := b1.trans (b2.mono b1.size)
  have hx2 := hx.below B2
  obtain ⟨unk, hunk⟩ : ∃ b, (partsOf (x, y, z)).any (fun q => decide (vs.getD q.toNat 0 = -1)) = b := ⟨_, rfl⟩
  have HUN := Lib.hid hunk
  have HGT := Lib.hid hg
  have HCC := Lib.hid hc
  have HU := Lib.hid hu
  have HWR := Lib.hid (wiresRead_any x y z W2)
  obtain ⟨d0, d1, d2⟩ := p2.three
  clear hunk hg hc hu hx p1 b1 b2 s1
  go_enter Try.func76, Try.ntmps76
  go_wp2_with fail
  rw [← hW1, ← hW2]
  clear hW1 hW2
  refine (HWR.out).mono ?_
  rintro e w3 ⟨R3, m3, c3, rfl, o3, hm3, b3⟩
  have p3 := p2.below' b3
  have r3 := r2.below' b3
  have B3 := B2.trans (b3.mono B2.size)
  have hx3 := hx2.below b3
  have HT : Tells 150 #[.pointer (some ⟨w.heap.size + 1, 0, none⟩)] (fun q => decide (vs.getD q.toNat 0 = -1)) (partsOf (x, y, z)) none w3 := by
    intro W k hk hgr
    have hmem : (partsOf (x, y, z)).getD k 0 ∈ partsOf (x, y, z) := by rw [List.getD_eq_getElem?_getD, List.getElem?_eq_getElem hk]; exact List.getElem_mem _
    have hin := parts_in HGT.out _ hmem
    obtain ⟨i, hi⟩ : ∃ i : Nat, (partsOf (x, y, z)).getD k 0 = (i : Int) := ⟨_, (Int.toNat_of_nonneg hin.1).symm⟩
    rw [hi] at hin ⊢
    have hcl := unknownClosure_any A m c vs (w.heap.size + 1) i W (hx3.grown hgr (fun ad e => by simp)) (by omega) ((r3.grown hgr (by simp)).cell (i := 0) rfl)
    exact hcl.mono (by rintro e w' ⟨rfl, rfl⟩; exact ⟨by simp, rfl⟩)
  have HCo := Lib.hid (containsInts_any 150 _ (enters_of Try.func150 (by kernel_rfl) rfl) (fun q => decide (vs.getD q.toNat 0 = -1)) R3 m3 c3 _ none unk w3 o3.has (by omega) HT HUN.out)
  clear HT d0 d1 d2 p2 r2 hx2 b3 HWR o3
  obtain ⟨d0, d1, d2⟩ := p3.three
  have t0 := r3.cell (i := 0) rfl
  go_wp2_with fail
  refine (HCo.out).mono ?_
  rintro e w4 ⟨rfl, rfl⟩
  cases unk with
  | false =>
    have hb : ∀ q ∈ partsOf (x, y, z), vs.getD q.toNat 0 = 0 ∨ vs.getD q.toNat 0 = 1 := fun q hq => by
      have h1 := List.any_eq_false.1 HUN.out q hq
      have h2 := HCC.out q.toNat
      simp only [decide_eq_true_eq] at h1
      unfold Con at h2
      omega
    have hgv : gval vs (x, y, z) = u := by
      rw [← HU.out]
      exact knownVal HGT.out hb
    have HGV := Lib.hid (gateValueP_any x y z A m c vs u w3 HGT.out hx3 hb hgv)
    clear hb hgv hx3 HCo
    go_wp2_with fail
    refine (HGV.out).mono ?_
    rintro e w5 ⟨rfl, b5⟩
    go_wp2_with fail
    go_ret
    exact ⟨rfl, B3.trans (b5.mono B3.size)⟩
  | true =>
    obtain ⟨q, hq, hq1⟩ := List.any_eq_true.1 HUN.out
    simp only [decide_eq_true_eq] at hq1
    rcases gateOk_yes HGT.out with ⟨hx01, hy, hz⟩ | ⟨rfl, hy, rfl⟩ | ⟨rfl, rfl, rfl⟩
    · rw [partsTwo hx01] at hq
      obtain ⟨jy, rfl⟩ : ∃ j : Nat, y = (j : Int) := ⟨y.toNat, by omega⟩
      obtain ⟨jz, rfl⟩ : ∃ j : Nat, z = (j : Int) := ⟨z.toNat, by omega⟩
      obtain ⟨rd, va, hrd, hcy, HY⟩ := hx3.elem (k := jy) (by omega)
      subst hrd
      obtain ⟨rd', vb, hrd', hcz, HZ⟩ := hx3.elem (k := jz) (by omega)
      injection hrd' with hrd'
      subst hrd'
      have e0 : (0 : Int) ≤ (jy : Int) := by omega
      have e1 : (jy : Int) < (m : Int) := by omega
      have e2 : (0 : Int) ≤ (jz : Int) := by omega
      have e3 : (jz : Int) < (m : Int) := by omega
      have hor : va = -1 ∨ vb = -1 := by
        rw [HY.out, HZ.out]
        rcases List.mem_cons.1 hq with e | e
        · left; rw [e] at hq1; simpa using hq1
        · right; rw [List.mem_singleton.1 e] at hq1; simpa using hq1
      have ca := HCC.out jy
      have cb := HCC.out jz
      rw [← HY.out] at ca
      rw [← HZ.out] at cb
      have hn := HU.out
      rw [conV] at hn
      simp only [Int.toNat_natCast, ← HY.out, ← HZ.out] at hn
      clear hq hq1 hy hz HU HUN HGT HCo hx3
      by_cases hyz : (jy : Int) = (jz : Int)
      · obtain rfl : jy = jz := by omega
        obtain rfl : va = vb := HY.out.trans HZ.out.symm
        have hva : va = -1 := by omega
        subst hva
        clear HY HZ ca cb hor
        rcases hx01 with rfl | rfl
        all_goals
          simp at hn
          subst hn
          go_wp2_with fail
          go_ret
          exact ⟨rfl, B3⟩
      · clear HY HZ
        rcases hx01 with rfl | rfl
        all_goals
          rcases ca with rfl | rfl | rfl
          all_goals
            rcases cb with rfl | rfl | rfl
            all_goals
              first
                | (exfalso; omega)
                | (simp [hyz] at hn
                   subst hn
                   clear hor
                   go_wp2_with fail
                   go_ret
                   exact ⟨rfl, B3⟩)
    · rw [partsOne, List.mem_singleton] at hq
      have hn : u = -1 := by
        rw [hq] at hq1
        rw [← HU.out, conV, if_neg (show ¬ (2 : Int) = 3 by decide), if_pos rfl, if_pos hq1]
      subst hn
      clear hq hq1 hy HU HUN HGT HCo hx3
      go_wp2_with fail
      go_ret
      exact ⟨rfl, B3⟩
    · exact absurd hq (by simp [partsOf])

set_option maxRecDepth 100000 in
set_option maxHeartbeats 2000000 in
theorem impl_ConstantWires (v : Value) (C : Ci) (rs : List Int) (rb : Bool) (w : World) (h : HasC w v C) (hf : Fit C) (hm : m_ConstantWires C = (rs, rb)) :
    Calls Try.prog 27 #[v] w fun e w' => ∃ R m c', e = .returned (.tuple #[.slice R m c', .bool rb]) ∧ Own w' w.heap.size R m c' rs ∧ m ≤ 16777216 ∧ Below w.heap.size w w' := by
  obtain ⟨G, n, c, O, q, d, rfl, hGs, hO, _, _, _, _⟩ := id h
  have HM := Lib.hid hm
  have HGS := Lib.hid hGs
  have HGL : Hid (C.gs.length = n) := hGs.1
  have B1 := belowNew w (.cells #[.int .i64 C.in0, .int .i64 C.in1, .slice G n c, .slice O q d] 34)
  have p1 := Blk.new w #[.int .i64 C.in0, .int .i64 C.in1, .slice G n c, .slice O q d] 34
  have h1 := h.below B1
  obtain ⟨W1, hW1⟩ : ∃ W, W = w.alloc (.cells #[.int .i64 C.in0, .int .i64 C.in1, .slice G n c, .slice O q d] 34) := ⟨_, rfl⟩
  rw [← hW1] at B1 p1 h1
  obtain ⟨ok, hok⟩ : ∃ ok, gd C = ok := ⟨_, rfl⟩
  have HG := Lib.hid (isCircuit_any _ C ok W1 h1 (fitLen hf) hok)
  obtain ⟨k0, k1, k2, k3⟩ := p1.four
  clear h hm hGs hO h1
  cases ok with
  | false =>
    have e := HM.out
    rw [m_ConstantWires, hok] at e
    obtain ⟨rfl, rfl⟩ := Prod.mk.inj e
    clear e
    go_enter Try.func27, Try.ntmps27
    go_wp2_with fail
    rw [← hW1]
    refine (HG.out).mono ?_
    rintro e w2 ⟨rfl, b2⟩
    go_wp2_with fail
    go_ret2
    exact ⟨none, 0, 0, rfl, Own.nil_ _ _, by omega, B1.trans (b2.mono B1.size)⟩
  | true =>
    have e := HM.out
    rw [m_ConstantWires, if_pos hok] at e
    obtain ⟨e1, rfl⟩ := Prod.mk.inj e
    have HR := Lib.hid e1
    have hG := gd_yes hok
    have HGO := Lib.hid hG
    obtain ⟨a0, a1, a2, a3⟩ : 0 ≤ C.in0 ∧ C.in0 ≤ 20 ∧ 0 ≤ C.in1 ∧ C.in1 ≤ 20 := ⟨hG.a0, hG.a1, hG.b0, hG.b1⟩
    have n300 : n ≤ 300 := by have := hG.g; have := HGL.out; omega
    have hins : 0 ≤ C.ins ∧ C.ins ≤ 40 := by unfold Ci.ins; omega
    obtain ⟨p, hl0⟩ : ∃ p : Nat, C.ins.toNat = p := ⟨_, rfl⟩
    have hp : C.ins = (p : Int) := by omega
    have p40 : p ≤ 40 := by omega
    have HL0 := Lib.hid hl0
    have HP := Lib.hid hp
    clear e e1 hok hG hl0 hp hins
    go_enter Try.func27, Try.ntmps27
    go_wp2_with fail
    rw [← hW1]
    clear hW1
    refine (HG.out).mono ?_
    rintro e w2 ⟨rfl, b2⟩
    have p2 := p1.below' b2
    have B2 := B1.trans (b2.mono B1.size)
    have b3 := belowNew w2 (.cells #[.int .i64 (-1)] 3)
    have y3 := Blk.new w2 #[.int .i64 (-1)] 3
    have p3 := p2.below' b3
    obtain ⟨w3, hw3⟩ : ∃ W, W = w2.alloc (.cells #[.int .i64 (-1)] 3) := ⟨_, rfl⟩
    rw [← hw3] at b3 y3 p3
    have B3 := Lib.hid (B2.trans (b3.mono B2.size))
    have HC3 := Lib.hid (HGS.out.below B3.out)
    have HRep : Hid (Calls Try.prog 75 #[.slice (some ⟨w2.heap.size, 0, none⟩) 1 1, .int .i64 (C.in0 + C.in1)] w3 fun e w' => ∃ R, e = .returned (.slice R p p) ∧ Own w' w3.heap.size R p p (conTo C 0) ∧ Below w3.heap.size w3 w') := by
      show Calls _ _ _ _ _
      rw [show C.in0 + C.in1 = (p : Int) from HP.out, conTo, HL0.out]
      exact repeatOne_any w2.heap.size p (-1) w3 (y3.cell (i := 0) rfl) y3.lt (by omega)
    have k5 := p2.four
    have k6 := (p2.below' (belowNew w2 (.cells #[.int .i64 (-1)] 3))).four
    clear p1 B1 b2 HG k0 k1 k2 k3 p2 b3 y3 B2
    obtain ⟨k0, k1, k2, k3⟩ := k5
    obtain ⟨u0, u1, u2, u3⟩ := k6
    go_wp2_with fail
    rw [← hw3]
    clear hw3
    refine (HRep.out).mono ?_
    rintro e w4 ⟨R4, rfl, o4, b4⟩
    have p4 := p3.below' b4
    clear k0 k1 k2 k3 u0 u1 u2 u3
    obtain ⟨k0, k1, k2, k3⟩ := p4.four
    go_wp2_with fail
    clear k0 k1 k2 k3 p3 p4 HRep
    go_loopw [4, 20] (fun vv iv wr => ∃ (j : Nat) (R : Option Addr) (l c' : Nat), j ≤ n ∧ iv = .int .i64 j ∧ vv = .slice R l c' ∧ Hid (l = p + j) ∧ Own wr w3.heap.size R l c' (conTo C j) ∧ Below w3.heap.size w3 wr) (fun _ iv _ => n - (intOf iv).toNat)
    case atStart => exact ⟨0, R4, p, p, Nat.zero_le _, rfl, rfl, rfl, o4, b4⟩
    case round =>
      obtain ⟨j, R, l, c', hj, rfl, rfl, HL, ho, bj⟩ := hrel
      by_cases hlt : j < n
      · obtain ⟨ad, x, y, z, hAd, hgx, hgy, hgz, HE⟩ := (HC3.out.below bj).elem hlt
        subst hAd
        have hgate := HGO.out.gate j (by rw [HGL.out]; exact hlt)
        rw [HE.out, HP.out] at hgate
        have hgate' : gateOk (l : Int) (x, y, z) = true := by have := HL.out; rw [this]; push_cast; exact hgate
        have l340 : l ≤ 340 := by have := HL.out; omega
        have bA := belowNew wr (.cells #[.int .i64 x, .int .i64 y, .int .i64 z] 72)
        have yg := Blk.new wr #[.int .i64 x, .int .i64 y, .int .i64 z] 72
        have hog := ho.below bA
        have q0 : (0 : Int) ≤ (j : Int) := by omega
        have q1 : (j : Int) < (n : Int) := by omega
        obtain ⟨wg, hwg⟩ : ∃ W, W = wr.alloc (.cells #[.int .i64 x, .int .i64 y, .int .i64 z] 72) := ⟨_, rfl⟩
        rw [← hwg] at bA yg hog
        have Bg := Lib.hid (bj.trans (bA.mono bj.size))
        have sg : w3.heap.size ≤ wg.heap.size := Bg.out.size
        obtain ⟨u, hu⟩ : ∃ u, conV (conTo C j) (x, y, z) = u := ⟨_, rfl⟩
        have HCV : Hid (conTo C j ++ [u] = conTo C (j + 1)) := by show _ = _; rw [conTo, HE.out, hu]
        have HCo := Lib.hid (constantOf_any x y z R l c' (conTo C j) u wg hgate' hog.has (conTo_con C j) hu)
        have HOG := Lib.hid hog
        obtain ⟨d0, d1, d2⟩ := yg.three
        clear hgate hgate' bj ho bA yg hog hu
        go_upto_region 7 with fail
        rw [← hwg]
        clear hwg hgx hgy hgz
        go_wp2_with fail
        refine (HCo.out).mono ?_
        rintro e wh ⟨rfl, bh⟩
        have HOH := Lib.hid (HOG.out.below bh)
        have BH := Lib.hid (Bg.out.trans (bh.mono sg))
        have sh : w3.heap.size ≤ wh.heap.size := BH.out.size
        clear HCo d0 d1 d2 bh
        go_wp2_with (at_builtin; refine appendInt wh rfl (.tmp 24) (.tmp 28) rfl u w3.heap.size (.slice R l c') l (conTo C j) rfl rfl HOH.out.2 (by omega) sh ?_; intro v9 w9 own9 b9)
        rw [HCV.out] at own9
        obtain ⟨R9, c9, rfl, ho9⟩ := ownOf own9
        have BB := BH.out.trans b9
        go_roundw
        case rel => exact ⟨j + 1, R9, l + 1, c9, by omega, by go_num, rfl, by have := HL.out; show _ = _; omega, ho9, BB⟩
        case measure => simp [intOf]; omega
      · obtain rfl : j = n := by omega
        go_wp2_with fail
        go_ret2
        exact ⟨R, l, c', rfl, by rw [← HR.out, HGL.out]; exact ho.mono B3.out.size, by have := HL.out; omega, B3.out.trans (bj.mono B3.out.size)⟩

end Go.Proofs.Ytnelcbjegbchkaa
