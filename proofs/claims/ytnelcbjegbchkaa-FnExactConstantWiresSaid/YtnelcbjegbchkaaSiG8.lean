/- The model's ConstantWires. For every circuit of at most 1048576 gates and outs. -/
import Derived.Test.YtnelcbjegbchkaaSiM3
import Derived.Test.YtnelcbjegbchkaaSiG2
namespace Go.Proofs.Ytnelcbjegbchkaa
open Go.RowKit
set_option maxRecDepth 100000

set_option maxRecDepth 100000 in
set_option maxHeartbeats 4000000 in
theorem siConstants_any (v : Value) (C : Ci) (w : World) (h : HasC w v C) (hG : Good C) :
    Calls Try.prog 73 #[v] w fun e w' => ∃ R m c', e = .returned (.slice R m c') ∧ Own w' w.heap.size R m c' (conTo C C.gs.length) ∧ m ≤ 16777216 ∧ Below w.heap.size w w' := by
  obtain ⟨G, n, c, O, q, d, rfl, hGs, hO, _, _, _, _⟩ := id h
  have HGO := Lib.hid hG
  have HGS := Lib.hid hGs
  have HGL : Hid (C.gs.length = n) := hGs.1
  have n300 : n ≤ 300 := by have := hG.g; have := HGL.out; omega
  obtain ⟨a0, a1, a2, a3⟩ : 0 ≤ C.in0 ∧ C.in0 ≤ 20 ∧ 0 ≤ C.in1 ∧ C.in1 ≤ 20 := ⟨hG.a0, hG.a1, hG.b0, hG.b1⟩
  have hins : 0 ≤ C.ins ∧ C.ins ≤ 40 := by unfold Ci.ins; omega
  obtain ⟨p, hl0⟩ : ∃ p : Nat, C.ins.toNat = p := ⟨_, rfl⟩
  have hp : C.ins = (p : Int) := by omega
  have p40 : p ≤ 40 := by omega
  have HL0 := Lib.hid hl0
  have HP := Lib.hid hp
  have B1 := belowNew w (.cells #[.int .i64 C.in0, .int .i64 C.in1, .slice G n c, .slice O q d] 34)
  have p1 := Blk.new w #[.int .i64 C.in0, .int .i64 C.in1, .slice G n c, .slice O q d] 34
  obtain ⟨W1, hW1⟩ : ∃ W, W = w.alloc (.cells #[.int .i64 C.in0, .int .i64 C.in1, .slice G n c, .slice O q d] 34) := ⟨_, rfl⟩
  rw [← hW1] at B1 p1
  have h1 := h.below B1
  have HC1 := Lib.hid (hGs.below B1)
  have HI : Hid (∀ W', Below W1.heap.size W1 W' → Calls Try.prog 80 #[.agg #[.int .i64 C.in0, .int .i64 C.in1, .slice G n c, .slice O q d]] W' fun e w' => e = .returned (.int .i64 (p : Int)) ∧ Below W'.heap.size W' w') := fun W' hb => by
    rw [← HP.out]; exact ciInputs_any _ C W' (h1.below hb) a0 (by omega) a2 (by omega)
  have HP1 := Lib.hid p1
  clear h hG hl0 hp hins hO hGs p1
  go_enter Try.func73, Try.ntmps73
  go_wp2_with fail
  rw [← hW1]
  clear hW1
  go_loopw [3, 4] (fun vv iv wr => ∃ (k : Nat) (R : Option Addr) (c' : Nat), k ≤ p ∧ iv = .int .i64 k ∧ vv = .slice R k c' ∧ Own wr W1.heap.size R k c' (mapTo (fun _ => -1) k) ∧ Below W1.heap.size W1 wr) (fun _ iv _ => p - (intOf iv).toNat)
  case atStart => exact ⟨0, none, 0, Nat.zero_le _, rfl, rfl, Own.nil_ _ _, Below.refl _ _⟩
  case round =>
    obtain ⟨k, R, c', hk, rfl, rfl, ho, bk⟩ := hrel
    obtain ⟨k0, k1, k2, k3⟩ := (HP1.out.below' bk).four
    have HIk := Lib.hid (HI.out wr bk)
    go_wp2_with fail
    refine (HIk.out).mono ?_
    rintro e w3 ⟨rfl, b3⟩
    have bk3 := Lib.hid (bk.trans (b3.mono bk.size))
    have ho3 := Lib.hid (ho.below b3)
    have s3 : W1.heap.size ≤ w3.heap.size := bk3.out.size
    clear k0 k1 k2 k3 HIk ho b3 bk
    by_cases hlt : k < p
    · have hlt' : (k : Int) < (p : Int) := by omega
      have HV : Hid (mapTo (fun _ => (-1 : Int)) k ++ [-1] = mapTo (fun _ => (-1 : Int)) (k + 1)) := (mapTo_succ _ _).symm
      go_wp2_with (at_builtin; refine appendInt w3 rfl (.tmp 16) (.tmp 17) rfl (-1) W1.heap.size (.slice R k c') k (mapTo (fun _ => -1) k) rfl rfl ho3.out.2 (by omega) s3 ?_; intro v9 w9 own9 b9)
      rw [HV.out] at own9
      obtain ⟨R9, c9, rfl, ho9⟩ := ownOf own9
      have BB := Lib.hid (bk3.out.trans b9)
      clear own9 b9
      go_wp2_with fail
      go_roundw
      case rel => exact ⟨k + 1, R9, c9, by omega, by go_num, rfl, ho9, BB.out⟩
      case measure => simp [intOf]; omega
    · obtain rfl : k = p := by omega
      obtain ⟨k0, k1, k2, k3⟩ := (HP1.out.below' bk3.out).four
      have h0 : Own w3 W1.heap.size R k c' (conTo C 0) := by rw [conTo, HL0.out]; exact ho3.out
      have H0 := Lib.hid h0
      clear h0
      go_wp2_with fail
      clear k0 k1 k2 k3
      go_loopw [3, 22] (fun vv iv wx => ∃ (j : Nat) (R : Option Addr) (l c' : Nat), j ≤ n ∧ iv = .int .i64 j ∧ vv = .slice R l c' ∧ Hid (l = k + j) ∧ Own wx W1.heap.size R l c' (conTo C j) ∧ Below W1.heap.size W1 wx) (fun _ iv _ => n - (intOf iv).toNat)
      case atStart => exact ⟨0, R, k, c', Nat.zero_le _, rfl, rfl, rfl, H0.out, bk3.out⟩
      case round =>
        obtain ⟨j, R, l, c', hj, rfl, rfl, HL, ho, bj⟩ := hrel
        by_cases hlt : j < n
        · obtain ⟨ad, x, y, z, hAd, hgx, hgy, hgz, HE⟩ := (HC1.out.below bj).elem hlt
          subst hAd
          have hgate := HGO.out.gate j (by rw [HGL.out]; exact hlt)
          rw [HE.out, HP.out] at hgate
          have hgate' : gateOk (l : Int) (x, y, z) = true := by have := HL.out; rw [this]; push_cast; exact hgate
          have l340 : l ≤ 340 := by have := HL.out; omega
          have bA := belowNew wr (.cells #[.int .i64 x, .int .i64 y, .int .i64 z] 72)
          have yg := Blk.new wr #[.int .i64 x, .int .i64 y, .int .i64 z] 72
          have hog := ho.below bA
          have q0 : (0 : Int) ≤ (j : Int) := by omega
          have q1 : (j : Int) < (n : Int) := by omega
          obtain ⟨wg, hwg⟩ : ∃ W, W = wr.alloc (.cells #[.int .i64 x, .int .i64 y, .int .i64 z] 72) := ⟨_, rfl⟩
          rw [← hwg] at bA yg hog
          have Bg := Lib.hid (bj.trans (bA.mono bj.size))
          have sg : W1.heap.size ≤ wg.heap.size := Bg.out.size
          have HOG := Lib.hid hog
          have HCV : Hid (conTo C j ++ [conV (conTo C j) (x, y, z)] = conTo C (j + 1)) := by show _ = _; rw [conTo, HE.out]
          have HCC := Lib.hid (conTo_con C j)
          have g0c := yg.cell (i := 0) rfl
          have g1c := yg.cell (i := 1) rfl
          have g2c := yg.cell (i := 2) rfl
          clear hgate bj ho bA yg
          rcases gateOk_yes hgate' with ⟨hx01, hy, hz⟩ | ⟨rfl, hy, rfl⟩ | ⟨rfl, rfl, rfl⟩
          · obtain ⟨jy, rfl⟩ : ∃ i : Nat, y = (i : Int) := ⟨y.toNat, by omega⟩
            obtain ⟨jz, rfl⟩ : ∃ i : Nat, z = (i : Int) := ⟨z.toNat, by omega⟩
            obtain ⟨rd, va, hrd, hcy, HY⟩ := hog.has.elem (k := jy) (by omega)
            subst hrd
            obtain ⟨rd', vb, hrd', hcz, HZ⟩ := hog.has.elem (k := jz) (by omega)
            injection hrd' with hrd'
            subst hrd'
            have e0 : (0 : Int) ≤ (jy : Int) := by omega
            have e1 : (jy : Int) < (l : Int) := by omega
            have e2 : (0 : Int) ≤ (jz : Int) := by omega
            have e3 : (jz : Int) < (l : Int) := by omega
            have ca := HCC.out jy
            have cb := HCC.out jz
            rw [← HY.out] at ca
            rw [← HZ.out] at cb
            obtain ⟨nz, hnz⟩ : ∃ u, conV (conTo C j) (x, (jy : Int), (jz : Int)) = u := ⟨_, rfl⟩
            rw [hnz] at HCV
            have hnz2 := hnz
            rw [conV] at hnz2
            simp only [Int.toNat_natCast, ← HY.out, ← HZ.out] at hnz2
            have hxx : bits BinOp.xor IntKind.i64 0 0 = 0 ∧ bits BinOp.xor IntKind.i64 0 1 = 1 ∧ bits BinOp.xor IntKind.i64 1 0 = 1 ∧ bits BinOp.xor IntKind.i64 1 1 = 0 := by decide
            obtain ⟨x00, x01, x10, x11⟩ := hxx
            by_cases hyz : jy = jz
            · subst hyz
              have hab : va = vb := HY.out.trans HZ.out.symm
              subst hab
              clear hnz HY HZ hy hz hgate' cb hcz hog
              rcases hx01 with rfl | rfl
              all_goals
                rcases ca with rfl | rfl | rfl
                all_goals
                  simp at hnz2
                  subst hnz2
                  go_upto_region 9 with fail
                  rw [← hwg]
                  clear hwg
                  go_wp2_with (at_builtin; refine appendInt wg rfl (.tmp 79) (.tmp 81) rfl _ W1.heap.size (.slice (some rd) l c') l (conTo C j) rfl rfl HOG.out.2 (by omega) sg ?_; intro v9 w9 own9 b9)
                  rw [HCV.out] at own9
                  obtain ⟨R9, c9, rfl, ho9⟩ := ownOf own9
                  have BB := Bg.out.trans b9
                  go_roundw
                  case rel => exact ⟨j + 1, R9, l + 1, c9, by omega, by go_num, rfl, by have := HL.out; show _ = _; omega, ho9, BB⟩
                  case measure => simp [intOf]; omega
            · clear hnz HY HZ hy hz hgate' hog
              have hyzI : ¬ (jy : Int) = (jz : Int) := by omega
              rcases hx01 with rfl | rfl
              all_goals
                rcases ca with rfl | rfl | rfl
                all_goals
                  rcases cb with rfl | rfl | rfl
                  all_goals
                    simp [hyzI] at hnz2
                    subst hnz2
                    go_upto_region 9 with fail
                    rw [← hwg]
                    clear hwg
                    go_wp2_with (at_builtin; refine appendInt wg rfl (.tmp 79) (.tmp 81) rfl _ W1.heap.size (.slice (some rd) l c') l (conTo C j) rfl rfl HOG.out.2 (by omega) sg ?_; intro v9 w9 own9 b9)
                    rw [HCV.out] at own9
                    obtain ⟨R9, c9, rfl, ho9⟩ := ownOf own9
                    have BB := Bg.out.trans b9
                    go_roundw
                    case rel => exact ⟨j + 1, R9, l + 1, c9, by omega, by go_num, rfl, by have := HL.out; show _ = _; omega, ho9, BB⟩
                    case measure => simp [intOf]; omega
          · obtain ⟨jy, rfl⟩ : ∃ i : Nat, y = (i : Int) := ⟨y.toNat, by omega⟩
            obtain ⟨rd, va, hrd, hcy, HY⟩ := hog.has.elem (k := jy) (by omega)
            subst hrd
            obtain ⟨rd', vb, hrd', hcz, _⟩ := hog.has.elem (k := 0) (by omega)
            injection hrd' with hrd'
            subst hrd'
            have hcz' : wg.cell? rd = some (.int .i64 vb) := by simpa [Addr.add] using hcz
            have e0 : (0 : Int) ≤ (jy : Int) := by omega
            have e1 : (jy : Int) < (l : Int) := by omega
            have e3 : (0 : Int) < (l : Int) := by omega
            have ca := HCC.out jy
            rw [← HY.out] at ca
            obtain ⟨nz, hnz⟩ : ∃ u, conV (conTo C j) (2, (jy : Int), 0) = u := ⟨_, rfl⟩
            rw [hnz] at HCV
            have hnz2 := hnz
            rw [conV] at hnz2
            simp only [Int.toNat_natCast, ← HY.out] at hnz2
            clear hnz HY hy hgate' hog
            rcases ca with rfl | rfl | rfl
            all_goals
              simp at hnz2
              subst hnz2
              go_upto_region 9 with fail
              rw [← hwg]
              clear hwg
              go_wp2_with (at_builtin; refine appendInt wg rfl (.tmp 79) (.tmp 81) rfl _ W1.heap.size (.slice (some rd) l c') l (conTo C j) rfl rfl HOG.out.2 (by omega) sg ?_; intro v9 w9 own9 b9)
              rw [HCV.out] at own9
              obtain ⟨R9, c9, rfl, ho9⟩ := ownOf own9
              have BB := Bg.out.trans b9
              go_roundw
              case rel => exact ⟨j + 1, R9, l + 1, c9, by omega, by go_num, rfl, by have := HL.out; show _ = _; omega, ho9, BB⟩
              case measure => simp [intOf]; omega
          · have hnz : conV (conTo C j) (3, 0, 0) = 1 := by simp [conV]
            rw [hnz] at HCV
            clear hnz hgate' hog
            go_upto_region 9 with fail
            rw [← hwg]
            clear hwg
            go_wp2_with (at_builtin; refine appendInt wg rfl (.tmp 79) (.tmp 81) rfl _ W1.heap.size (.slice R l c') l (conTo C j) rfl rfl HOG.out.2 (by omega) sg ?_; intro v9 w9 own9 b9)
            rw [HCV.out] at own9
            obtain ⟨R9, c9, rfl, ho9⟩ := ownOf own9
            have BB := Bg.out.trans b9
            go_roundw
            case rel => exact ⟨j + 1, R9, l + 1, c9, by omega, by go_num, rfl, by have := HL.out; show _ = _; omega, ho9, BB⟩
            case measure => simp [intOf]; omega
        · obtain rfl : j = n := by omega
          go_wp2_with fail
          go_ret
          exact ⟨R, l, c', rfl, by rw [HGL.out]; exact ho.mono B1.size, by have := HL.out; omega, B1.trans (bj.mono B1.size)⟩

set_option maxRecDepth 100000 in
set_option maxHeartbeats 1000000 in
theorem spec_ConstantWires (v : Value) (C : Ci) (rs : List Int) (rb : Bool) (w : World) (h : HasC w v C) (hf : Fit C) (hm : m_ConstantWires C = (rs, rb)) :
    Calls Try.prog 26 #[v] w fun e w' => ∃ R m c', e = .returned (.tuple #[.slice R m c', .bool rb]) ∧ Has w' R m rs ∧ m ≤ 16777216 ∧ Below w.heap.size w w' := by
  obtain ⟨G, n, c, O, q, d, rfl, _, _, _, _, _, _⟩ := id h
  have HM := Lib.hid hm
  have B1 := belowNew w (.cells #[.int .i64 C.in0, .int .i64 C.in1, .slice G n c, .slice O q d] 34)
  have p1 := Blk.new w #[.int .i64 C.in0, .int .i64 C.in1, .slice G n c, .slice O q d] 34
  have h1 := h.below B1
  obtain ⟨W1, hW1⟩ : ∃ W, W = w.alloc (.cells #[.int .i64 C.in0, .int .i64 C.in1, .slice G n c, .slice O q d] 34) := ⟨_, rfl⟩
  rw [← hW1] at B1 p1 h1
  obtain ⟨ok, hok⟩ : ∃ ok, gd C = ok := ⟨_, rfl⟩
  have HG := Lib.hid (ciGood_any _ C ok W1 h1 (fitLen hf) hok)
  obtain ⟨k0, k1, k2, k3⟩ := p1.four
  clear h hm
  cases ok with
  | false =>
    have e := HM.out
    rw [m_ConstantWires, hok] at e
    obtain ⟨rfl, rfl⟩ := Prod.mk.inj e
    clear e
    go_enter Try.func26, Try.ntmps26
    go_wp2_with fail
    rw [← hW1]
    refine (HG.out).mono ?_
    rintro e w2 ⟨rfl, b2⟩
    go_wp2_with fail
    go_ret2
    exact ⟨none, 0, 0, rfl, Has.nil_, by omega, B1.trans (b2.mono B1.size)⟩
  | true =>
    have e := HM.out
    rw [m_ConstantWires, if_pos hok] at e
    obtain ⟨e1, rfl⟩ := Prod.mk.inj e
    have HR := Lib.hid e1
    have hG := gd_yes hok
    clear e e1 hok
    go_enter Try.func26, Try.ntmps26
    go_wp2_with fail
    rw [← hW1]
    clear hW1
    refine (HG.out).mono ?_
    rintro e w2 ⟨rfl, b2⟩
    have p2 := p1.below' b2
    have HC := Lib.hid (siConstants_any _ C w2 (h1.below b2) hG)
    have B2 := B1.trans (b2.mono B1.size)
    clear p1 h1 B1 b2 HG k0 k1 k2 k3 hG
    obtain ⟨k0, k1, k2, k3⟩ := p2.four
    go_wp2_with fail
    refine (HC.out).mono ?_
    rintro e w3 ⟨R, m3, c3, rfl, o3, m3l, b3⟩
    go_wp2_with fail
    go_ret2
    exact ⟨R, m3, c3, rfl, by rw [← HR.out]; exact o3.has, m3l, B2.trans (b3.mono B2.size)⟩

end Go.Proofs.Ytnelcbjegbchkaa
