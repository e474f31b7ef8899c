/- The model's circuit without dead gates: DropDead. For every circuit of at most 1048576 gates and outs. -/
import Derived.Test.YteiibneaihdmbaaSiW1
import Derived.Test.YteiibneaihdmbaaCirG9
import Derived.Test.YteiibneaihdmbaaCirG11
import Derived.Test.YteiibneaihdmbaaCirG12
import Derived.Test.YteiibneaihdmbaaGdG3
namespace Go.Proofs.Yteiibneaihdmbaa
open Go.RowKit
set_option maxRecDepth 100000

theorem usedL_has {C : Ci} {k : Nat} (h0 : 0 ≤ C.ins) (hk : k < C.gs.length) : (usedL C).contains (C.ins + (k : Int)) = usedG C k := by
  rw [Bool.eq_iff_iff, contains_iff, usedL, List.mem_map]
  constructor
  · rintro ⟨i, hi, e⟩
    have := (List.mem_filter.1 hi).2
    rw [e] at this
    exact this
  · intro hu
    refine ⟨(C.ins + (k : Int)).toNat, List.mem_filter.2 ⟨List.mem_range.2 ?_, ?_⟩, by omega⟩
    · unfold Ci.wires Ci.ins at *; omega
    · rw [show (((C.ins + (k : Int)).toNat : Nat) : Int) = C.ins + (k : Int) by omega]; exact hu
theorem pickDrop {C : Ci} (hG : Good C) (h0 : 0 ≤ C.ins) : pickL (movedD C C.gs.length) C.os = C.os.map fun z => plD C z.toNat := by
  refine List.map_congr_left fun y hy => ?_
  have hu := usedOuts C y hy
  have hw := usedB_wire hG _ (Nat.le_refl _) y hu
  exact movedD_used h0 hw.1 (by unfold Ci.wires at hw; unfold Ci.ins; omega) hu

/-- What holds behind the first k gates. -/
def DropRel (C : Ci) (T bo n p : Nat) (w3 : World) (sv iv : Value) (wr : World) : Prop :=
  ∃ (k : Nat) (S : Option Addr) (l cS : Nat) (R : Option Addr) (m cR : Nat), k ≤ n ∧ iv = .int .i64 k ∧ sv = .slice S l cS ∧ l = p + k ∧ m = cntU C k ∧ DropSt wr T bo (.int .i64 C.in0) (.int .i64 C.in1) (.slice none 0 0) S l cS (movedD C k) R m cR ((keptTo C k).map (mvG (plD C))) ∧ Below w3.heap.size w3 wr

set_option maxRecDepth 100000 in
set_option maxHeartbeats 4000000 in
theorem siDrop_any (v : Value) (C : Ci) (w : World) (h : HasC w v C) (hG : Good C) :
    Calls Try.prog 128 #[v] w fun e w' => ∃ u, e = .returned u ∧ OwnC w' w.heap.size u (dropC C) ∧ Below w.heap.size w w' := by
  obtain ⟨G, n, c, O, q, d, rfl, hGs, hO, _, _, _, _⟩ := id h
  have HGO := Lib.hid hG
  have HGS := Lib.hid hGs
  have HOS := Lib.hid hO
  have HGL : Hid (C.gs.length = n) := hGs.1
  have HOL : Hid (C.os.length = q) := hO.1
  have n300 : n ≤ 300 := by have := hG.g; have := HGL.out; omega
  have q40 : q ≤ 40 := by have := hG.o; have := HOL.out; omega
  obtain ⟨a0, a1, a2, a3⟩ : 0 ≤ C.in0 ∧ C.in0 ≤ 20 ∧ 0 ≤ C.in1 ∧ C.in1 ≤ 20 := ⟨hG.a0, hG.a1, hG.b0, hG.b1⟩
  have hins : 0 ≤ C.ins ∧ C.ins ≤ 40 := by unfold Ci.ins; omega
  have HIN := Lib.hid hins
  obtain ⟨l0, hl0⟩ : ∃ p : Nat, C.ins.toNat = p := ⟨_, rfl⟩
  have hp : C.ins = (l0 : Int) := by omega
  have l40 : l0 ≤ 40 := by omega
  have HL0 := Lib.hid hl0
  have HP := Lib.hid hp
  have B1 := belowNew w (.cells #[.int .i64 C.in0, .int .i64 C.in1, .slice G n c, .slice O q d] 29)
  have p1 := Blk.new w #[.int .i64 C.in0, .int .i64 C.in1, .slice G n c, .slice O q d] 29
  obtain ⟨W1, hW1⟩ : ∃ W, W = w.alloc (.cells #[.int .i64 C.in0, .int .i64 C.in1, .slice G n c, .slice O q d] 29) := ⟨_, rfl⟩
  have s1 : W1.heap.size = w.heap.size + 1 := by rw [hW1]; simp
  rw [← hW1] at B1 p1
  have b2 := belowNew W1 (.cells #[.int .i64 0, .int .i64 0, .slice none 0 0, .slice none 0 0] 29)
  have r2 := Blk.newAt (k := w.heap.size + 1) W1 #[.int .i64 0, .int .i64 0, .slice none 0 0, .slice none 0 0] 29 s1.symm
  have p2 := p1.below' b2
  obtain ⟨W2, hW2⟩ : ∃ W, W = W1.alloc (.cells #[.int .i64 0, .int .i64 0, .slice none 0 0, .slice none 0 0] 29) := ⟨_, rfl⟩
  have s2 : W2.heap.size = w.heap.size + 1 + 1 := by rw [hW2]; simp [s1]
  rw [← hW2] at b2 r2 p2
  have B2 := B1.trans (b2.mono B1.size)
  have h2 := h.below B2
  have HU2 := Lib.hid (ciUsed_any _ C W2 h2 hG)
  obtain ⟨k0, k1, k2, k3⟩ := p2.four
  have sz2 : w.heap.size + 1 + 1 ≤ W2.heap.size := by omega
  clear h hG hl0 hp hins hO hGs B1 p1 b2 s1 s2
  go_enter Try.func128, Try.ntmps128
  go_upto_region 1 with fail
  rw [← hW1, ← hW2]
  clear hW1 hW2
  go_wp2_with fail
  refine (HU2.out).mono ?_
  rintro e w3 ⟨U, mU, cU, rfl, hU, hmU, b3⟩
  have p3 := p2.below' b3
  have r3 := r2.below' b3
  have h3 := h2.below b3
  have HC3 := Lib.hid (HGS.out.below (B2.trans (b3.mono B2.size)))
  have HO3 := Lib.hid (HOS.out.below (B2.trans (b3.mono B2.size)))
  have HP3 := Lib.hid (p2.below' b3)
  have HR3 := Lib.hid (r2.below' b3)
  have HUU := Lib.hid hU
  have B3 := B2.trans (b3.mono B2.size)
  have sz3 : w.heap.size + 1 + 1 ≤ w3.heap.size := Nat.le_trans sz2 b3.size
  clear k0 k1 k2 k3 p2 r2 h2 b3 B2 HU2 sz2
  obtain ⟨k0, k1, k2, k3⟩ := p3.four
  obtain ⟨bo, hbo'⟩ : ∃ b, w3.heap.size = b := ⟨_, rfl⟩
  have b4 := belowNew w3 (.cells #[.int .i64 C.in0, .int .i64 C.in1, .slice none 0 0, .slice none 0 0] 29)
  have y4 := Blk.newAt (k := bo) w3 #[.int .i64 C.in0, .int .i64 C.in1, .slice none 0 0, .slice none 0 0] 29 hbo'.symm
  have p4 := p3.below' b4
  obtain ⟨w4, hw4⟩ : ∃ W, W = w3.alloc (.cells #[.int .i64 C.in0, .int .i64 C.in1, .slice none 0 0, .slice none 0 0] 29) := ⟨_, rfl⟩
  rw [← hw4] at b4 y4 p4
  have hbo : w3.heap.size ≤ bo := by omega
  go_upto_region 3 with fail
  rw [← hw4]
  clear hw4 k0 k1 k2 k3
  obtain ⟨k0, k1, k2, k3⟩ := p4.four
  have HI : Hid (∀ W', Below w3.heap.size w3 W' → Calls Try.prog 62 #[.agg #[.int .i64 C.in0, .int .i64 C.in1, .slice G n c, .slice O q d]] W' fun e w' => e = .returned (.int .i64 (l0 : Int)) ∧ Below W'.heap.size W' w') := fun W' hb => by
    rw [← HP.out]; exact ciInputs_any _ C W' (h3.below hb) a0 (by omega) a2 (by omega)
  have HI4 := Lib.hid (HI.out w4 b4)
  have HRg : Hid (∀ W, Calls Try.prog 59 #[.int .i64 0, .int .i64 (l0 : Int)] W fun e w' => ∃ R c, e = .returned (.slice R l0 c) ∧ Own w' W.heap.size R l0 c (movedD C 0) ∧ Below W.heap.size W w') := fun W => by
    rw [movedD_zero HIN.out.1, HL0.out]; exact gdRange_any 0 l0 W (by omega) (by omega) (by omega)
  go_wp2_with fail
  refine (HI4.out).mono ?_
  rintro e w5 ⟨rfl, b5⟩
  have y5 := y4.below' b5
  have p5 := p4.below' b5
  have B5 := b4.trans (b5.mono b4.size)
  clear k0 k1 k2 k3 y4 p4 HI4 b4 b5
  go_wp2_with fail
  refine (HRg.out w5).mono ?_
  rintro e w6 ⟨S6, c6, rfl, o6, b6⟩
  have y6 := y5.below' b6
  have p6 := p5.below' b6
  have B6 := B5.trans (b6.mono B5.size)
  obtain ⟨k0, k1, k2, k3⟩ := p6.four
  have hT5 : w3.heap.size ≤ w5.heap.size := B5.size
  obtain ⟨T, hT⟩ : ∃ T, w3.heap.size = T := ⟨_, rfl⟩
  have HREL0 : DropRel C T bo n l0 w3 (.slice S6 l0 c6) (.int .i64 0) w6 := ⟨0, S6, l0, c6, none, 0, 0, Nat.zero_le _, rfl, rfl, rfl, rfl, ⟨o6.mono (by omega), y6, OwnG.nil_ _ _, by omega⟩, B6⟩
  clear y5 p5 B5 o6 y6 b6 HRg
  go_wp2_with fail
  clear k0 k1 k2 k3
  subst hT
  go_loopw [5, 21] (fun sv iv wr => DropRel C w3.heap.size bo n l0 w3 sv iv wr) (fun _ iv _ => n - (intOf iv).toNat)
  case atStart => exact HREL0
  case round =>
    obtain ⟨k, S, l, cS, R, m, cR, hk, rfl, rfl, hl, hm, st, bk⟩ := hrel
    have l340 : l ≤ 340 := by omega
    have m300 : m ≤ 300 := by have := cntU_le C k; omega
    have HL := Lib.hid hl
    have HMC := Lib.hid hm
    clear hl hm
    by_cases hlt : k < n
    · obtain ⟨ad, x, y, z, rfl, hgx, hgy, hgz, HE⟩ := (HC3.out.below bk).elem hlt
      have hgate := HGO.out.gate k (by rw [HGL.out]; exact hlt)
      rw [HE.out] at hgate
      obtain ⟨bg, hbg⟩ : ∃ b, wr.heap.size = b := ⟨_, rfl⟩
      have hold := st.old
      rw [hbg] at hold
      have GO := Lib.hid hold
      have bA := belowNew wr (.cells #[.int .i64 x, .int .i64 y, .int .i64 z] 69)
      have yg := Blk.newAt (k := bg) wr #[.int .i64 x, .int .i64 y, .int .i64 z] 69 hbg.symm
      have stg := st.below bA
      have q0 : (0 : Int) ≤ (k : Int) := by omega
      have q1 : (k : Int) < (n : Int) := by omega
      obtain ⟨wg, hwg⟩ : ∃ W, W = wr.alloc (.cells #[.int .i64 x, .int .i64 y, .int .i64 z] 69) := ⟨_, rfl⟩
      rw [← hwg] at bA yg stg
      have Bg := bk.trans (bA.mono bk.size)
      have hbgT : w3.heap.size ≤ bg := by have := bk.size; omega
      obtain ⟨k0, k1, k2, k3⟩ := (HP3.out.below' Bg).four
      have HIg := Lib.hid (HI.out wg Bg)
      have HHas : Hid (∀ W', Below w3.heap.size w3 W' → Calls Try.prog 105 #[.slice U mU cU, .int .i64 ((l0 : Int) + (k : Int))] W' fun e w' => e = .returned (.bool (usedG C k)) ∧ W' = w') := fun W' hb => by
        rw [← HP.out]; exact l1Has_mem U mU cU (usedL C) _ _ W' (HUU.out.below hb) hmU (usedL_has HIN.out.1 (by rw [HGL.out]; exact hlt))
      have HGATE := Lib.hid hgate
      clear st bk bA hgate hold
      go_upto_region 7 with fail
      rw [← hwg]
      clear hwg hgx hgy hgz
      go_wp2_with fail
      refine (HIg.out).mono ?_
      rintro e wh ⟨rfl, bh⟩
      have sth := stg.below bh
      have yh := yg.below' bh
      have Bh := Bg.trans (bh.mono Bg.size)
      have HHh := Lib.hid (HHas.out wh Bh)
      clear k0 k1 k2 k3 HIg HHas stg yg bh Bg
      obtain ⟨u, hu⟩ : ∃ u, usedG C k = u := ⟨_, rfl⟩
      have HU := Lib.hid hu
      rw [hu] at HHh
      clear hu
      cases u with
      | false =>
        have HPL : Hid (movedD C k ++ [(-1 : Int)] = movedD C (k + 1)) := by show _ = _; rw [movedD_succ HIN.out.1, if_neg (by rw [HU.out]; decide)]
        have HKT : Hid ((keptTo C k).map (mvG (plD C)) = (keptTo C (k + 1)).map (mvG (plD C))) := by show _ = _; rw [keptTo, if_neg (by rw [HU.out]; decide)]
        have sh : w3.heap.size ≤ wh.heap.size := Bh.size
        have HBh := Lib.hid Bh
        have HST := Lib.hid sth
        go_wp2_with fail
        refine (HHh.out).mono ?_
        rintro e wi ⟨rfl, rfl⟩
        go_wp2_with (at_builtin; refine appendIntG wh rfl (.tmp 33) (.tmp 34) rfl (-1) w3.heap.size (.slice S l cS) l (movedD C k) rfl rfl HST.out.row.2 (by omega) sh ?_; intro v7 w7 own7 b7 gr7)
        rw [ownBlockOf] at gr7
        rw [HPL.out] at own7
        obtain ⟨S7, c7, rfl, st7⟩ := HST.out.putS own7 gr7
        rw [HKT.out] at st7
        have ST7 := Lib.hid st7
        have B7 := Lib.hid (HBh.out.trans b7)
        clear own7 b7 gr7 st7 yh
        go_roundw
        case rel =>
          have REL : DropRel C w3.heap.size bo n l0 w3 (.slice S7 (l + 1) c7) (.int .i64 ((k : Int) + 1)) w7 := ⟨k + 1, S7, l + 1, c7, R, m, cR, by omega, by go_num, rfl, by have := HL.out; omega, by rw [cntU, if_neg (by rw [HU.out]; decide)]; exact HMC.out, ST7.out, B7.out⟩
          first | exact REL | ((repeat apply Exists.intro); exact ⟨REL, rfl⟩)
        case measure => simp [intOf]; omega
      | true =>
        have HUP := Lib.hid (usedParts HGO.out (k := k) (by rw [HGL.out]; exact hlt) HU.out)
        have HPT : Hid (∀ y' ∈ partsOf (x, y, z), 0 ≤ y' → y' < (l : Int) → (movedD C k).getD y'.toNat 0 = plD C y'.toNat) := fun y' hy h0 h1 => movedD_used HIN.out.1 h0 (by rw [HP.out]; have := HL.out; omega) (HUP.out y' (by rw [HE.out]; exact hy))
        have hgate' : gateOk (l : Int) (x, y, z) = true := by have := HGATE.out; rw [HP.out] at this; rw [HL.out]; push_cast; exact this
        rcases gateOk_yes hgate' with ⟨hx01, hy, hz⟩ | ⟨rfl, hy, rfl⟩ | ⟨rfl, rfl, rfl⟩
        · obtain ⟨jy, rfl⟩ : ∃ j : Nat, y = (j : Int) := ⟨y.toNat, by omega⟩
          obtain ⟨jz, rfl⟩ : ∃ j : Nat, z = (j : Int) := ⟨z.toNat, by omega⟩
          obtain ⟨rd, va, hrd, hcy, HY⟩ := sth.row.has.elem (k := jy) (by omega)
          subst hrd
          have e0 : (0 : Int) ≤ (jy : Int) := by omega
          have e1 : (jy : Int) < (l : Int) := by omega
          have e2 : (0 : Int) ≤ (jz : Int) := by omega
          have e3 : (jz : Int) < (l : Int) := by omega
          have HVA : Hid (plD C jy = va) := by show _ = _; rw [HY.out]; exact (HPT.out (jy : Int) (by rw [partsTwo hx01]; simp) e0 e1).symm
          have HVB0 : Hid ((movedD C k).getD jz 0 = plD C jz) := HPT.out (jz : Int) (by rw [partsTwo hx01]; simp) e2 e3
          have g0c := yh.cell (i := 0) rfl
          have g1c := yh.cell (i := 1) rfl
          have f1c := yh.free 1
          clear hy hz hgate' HPT HUP
          rcases hx01 with rfl | rfl
          · go_upto_region 10 with (go_at_call 105; refine (HHh.out).mono ?_; rintro e wi ⟨rfl, rfl⟩)
            go_upto_region 11 with fail
            obtain ⟨wi, hwi⟩ : ∃ W, W = wh.setCell ⟨bg, 1, none⟩ (.int .i64 va) := ⟨_, rfl⟩
            have gqi : wh.grownBy wi (some bg) := by rw [hwi]; exact grown_setCell (World.grownBy.refl _ _) _ _
            have yi := yh.set 1 (.int .i64 va)
            rw [← hwi] at yi
            have sti := sth.later GO.out.1 GO.out.2.1 GO.out.2.2 gqi
            have Bi := Bh.grown gqi Bh.size (fun k hk => by simp at hk; omega)
            rw [← hwi]
            clear hwi gqi
            obtain ⟨rd', vb, hrd', hcz, HZ⟩ := sti.row.has.elem (k := jz) (by omega)
            injection hrd' with hrd'
            subst hrd'
            have HVB : Hid (plD C jz = vb) := by show _ = _; rw [HZ.out]; exact HVB0.out.symm
            have h0c := yi.cell (i := 0) rfl
            have g2c := yi.cell (i := 2) rfl
            have f2c := yi.free 2
            clear hcy g1c f1c g0c yh sth HVB0
            go_upto_region 13 with fail
            clear h0c hcz g2c f2c
            obtain ⟨wj, hwj⟩ : ∃ W, W = wi.setCell ⟨bg, 2, none⟩ (.int .i64 vb) := ⟨_, rfl⟩
            have gqj : wi.grownBy wj (some bg) := by rw [hwj]; exact grown_setCell (World.grownBy.refl _ _) _ _
            have yj := yi.set 2 (.int .i64 vb)
            rw [← hwj] at yj
            have stj := sti.later GO.out.1 GO.out.2.1 GO.out.2.2 gqj
            have Bj := Bi.grown gqj Bi.size (fun k hk => by simp at hk; omega)
            rw [← hwj]
            clear hwj gqj
            clear yi sti
            have HMV : Hid (mvG (plD C) (C.gs.getD k g0) = (0, va, vb)) := by
              show _ = _
              rw [HE.out]
              simp [mvG, HVA.out, HVB.out]
            have HKT : Hid ((keptTo C k).map (mvG (plD C)) ++ [(0, va, vb)] = (keptTo C (k + 1)).map (mvG (plD C))) := by
              show _ = _
              rw [keptTo, if_pos HU.out, List.map_append, List.map_singleton, HMV.out]
            have Bj := Lib.hid Bj
            have sj : w3.heap.size ≤ wj.heap.size := Bj.out.size
            obtain ⟨o0, o1, o2, o3⟩ := stj.blk.four
            have HWi := Lib.hid (ciWires_any _ ⟨C.in0, C.in1, (keptTo C k).map (mvG (plD C)), []⟩ wj ⟨R, m, cR, none, 0, 0, rfl, stj.gates.has, Has.nil_, stj.gates.capLe, Nat.le_refl _, stj.gates.nilOk, fun _ => ⟨rfl, rfl⟩⟩ a0 (show C.in0 ≤ 1000 by omega) a2 (show C.in1 ≤ 1000 by omega) (by rw [List.length_map, keptTo_length]; have := cntU_le C k; omega))
            have STj := Lib.hid stj
            have Yj := Lib.hid yj
            clear stj yj
            go_wp2_with fail
            refine (HWi.out).mono ?_
            rintro e wa ⟨rfl, ba⟩
            have sta := STj.out.below ba
            have ya := Yj.out.below' ba
            have Ba := Lib.hid (Bj.out.trans (ba.mono sj))
            have sa : w3.heap.size ≤ wa.heap.size := Ba.out.size
            have HWE : Hid ((Ci.wires ⟨C.in0, C.in1, (keptTo C k).map (mvG (plD C)), []⟩ : Int) = C.ins + (cntU C k : Int)) := by
              show _ = _
              simp only [Ci.wires, Ci.ins, List.length_map, keptTo_length]
            rw [HWE.out]
            have HPL : Hid (movedD C k ++ [C.ins + (cntU C k : Int)] = movedD C (k + 1)) := by show _ = _; rw [movedD_succ HIN.out.1, if_pos HU.out]
            obtain ⟨pz, hpz⟩ : ∃ z, C.ins + (cntU C k : Int) = z := ⟨_, rfl⟩
            rw [hpz] at HPL ⊢
            clear hpz o0 o1 o2 o3 HWi HWE
            go_upto_region 14 with (at_builtin; refine appendIntG wa rfl (.tmp 59) (.tmp 62) rfl pz w3.heap.size (.slice (some rd) l cS) l (movedD C k) rfl rfl sta.row.2 (by omega) sa ?_; intro v7 w7 own7 b7 gr7)
            rw [ownBlockOf] at gr7
            have y7 := ya.grown gr7 (notOld GO.out.1)
            rw [HPL.out] at own7
            obtain ⟨S7, c7, rfl, st7⟩ := sta.putS own7 gr7
            have B7 := Lib.hid (Ba.out.trans b7)
            have s7 : w3.heap.size ≤ w7.heap.size := B7.out.size
            obtain ⟨o0, o1, o2, o3⟩ := st7.blk.four
            have c0 := y7.cell (i := 0) rfl
            have c1' := y7.cell (i := 1) rfl
            have c2' := y7.cell (i := 2) rfl
            clear own7 b7 gr7 sta ya
            go_wp2_with (at_builtin; refine appendGate w7 rfl (.tmp 65) (.tmp 67) rfl 0 va vb w3.heap.size (.slice R m cR) m ((keptTo C k).map (mvG (plD C))) rfl rfl st7.gates.2 (by omega) s7 ?_; intro v8 w8 own8 b8 gr8; rw [ownBlockOf] at gr8; rw [HKT.out] at own8; obtain ⟨R8, c8, rfl, p8, st8⟩ := st7.putR own8 gr8; have B8 := Lib.hid ((B7.out.trans b8).setCell (p := ⟨bo, 2, none⟩) hbo (.slice R8 (m + 1) c8)); have x8 := p8.cell (i := 2) rfl; have f8 := p8.free 2)
            go_roundw
            case rel =>
              have REL : DropRel C w3.heap.size bo n l0 w3 (.slice S7 (l + 1) c7) (.int .i64 ((k : Int) + 1)) _ := ⟨k + 1, S7, l + 1, c7, R8, m + 1, c8, by omega, by go_num, rfl, by have := HL.out; omega, by rw [cntU, if_pos HU.out, ← HMC.out], st8, B8.out⟩
              first | exact REL | ((repeat apply Exists.intro); exact ⟨REL, rfl⟩)
            case measure => simp [intOf]; omega
          · go_upto_region 10 with (go_at_call 105; refine (HHh.out).mono ?_; rintro e wi ⟨rfl, rfl⟩)
            go_upto_region 11 with fail
            obtain ⟨wi, hwi⟩ : ∃ W, W = wh.setCell ⟨bg, 1, none⟩ (.int .i64 va) := ⟨_, rfl⟩
            have gqi : wh.grownBy wi (some bg) := by rw [hwi]; exact grown_setCell (World.grownBy.refl _ _) _ _
            have yi := yh.set 1 (.int .i64 va)
            rw [← hwi] at yi
            have sti := sth.later GO.out.1 GO.out.2.1 GO.out.2.2 gqi
            have Bi := Bh.grown gqi Bh.size (fun k hk => by simp at hk; omega)
            rw [← hwi]
            clear hwi gqi
            obtain ⟨rd', vb, hrd', hcz, HZ⟩ := sti.row.has.elem (k := jz) (by omega)
            injection hrd' with hrd'
            subst hrd'
            have HVB : Hid (plD C jz = vb) := by show _ = _; rw [HZ.out]; exact HVB0.out.symm
            have h0c := yi.cell (i := 0) rfl
            have g2c := yi.cell (i := 2) rfl
            have f2c := yi.free 2
            clear hcy g1c f1c g0c yh sth HVB0
            go_upto_region 13 with fail
            clear h0c hcz g2c f2c
            obtain ⟨wj, hwj⟩ : ∃ W, W = wi.setCell ⟨bg, 2, none⟩ (.int .i64 vb) := ⟨_, rfl⟩
            have gqj : wi.grownBy wj (some bg) := by rw [hwj]; exact grown_setCell (World.grownBy.refl _ _) _ _
            have yj := yi.set 2 (.int .i64 vb)
            rw [← hwj] at yj
            have stj := sti.later GO.out.1 GO.out.2.1 GO.out.2.2 gqj
            have Bj := Bi.grown gqj Bi.size (fun k hk => by simp at hk; omega)
            rw [← hwj]
            clear hwj gqj
            clear yi sti
            have HMV : Hid (mvG (plD C) (C.gs.getD k g0) = (1, va, vb)) := by
              show _ = _
              rw [HE.out]
              simp [mvG, HVA.out, HVB.out]
            have HKT : Hid ((keptTo C k).map (mvG (plD C)) ++ [(1, va, vb)] = (keptTo C (k + 1)).map (mvG (plD C))) := by
              show _ = _
              rw [keptTo, if_pos HU.out, List.map_append, List.map_singleton, HMV.out]
            have Bj := Lib.hid Bj
            have sj : w3.heap.size ≤ wj.heap.size := Bj.out.size
            obtain ⟨o0, o1, o2, o3⟩ := stj.blk.four
            have HWi := Lib.hid (ciWires_any _ ⟨C.in0, C.in1, (keptTo C k).map (mvG (plD C)), []⟩ wj ⟨R, m, cR, none, 0, 0, rfl, stj.gates.has, Has.nil_, stj.gates.capLe, Nat.le_refl _, stj.gates.nilOk, fun _ => ⟨rfl, rfl⟩⟩ a0 (show C.in0 ≤ 1000 by omega) a2 (show C.in1 ≤ 1000 by omega) (by rw [List.length_map, keptTo_length]; have := cntU_le C k; omega))
            have STj := Lib.hid stj
            have Yj := Lib.hid yj
            clear stj yj
            go_wp2_with fail
            refine (HWi.out).mono ?_
            rintro e wa ⟨rfl, ba⟩
            have sta := STj.out.below ba
            have ya := Yj.out.below' ba
            have Ba := Lib.hid (Bj.out.trans (ba.mono sj))
            have sa : w3.heap.size ≤ wa.heap.size := Ba.out.size
            have HWE : Hid ((Ci.wires ⟨C.in0, C.in1, (keptTo C k).map (mvG (plD C)), []⟩ : Int) = C.ins + (cntU C k : Int)) := by
              show _ = _
              simp only [Ci.wires, Ci.ins, List.length_map, keptTo_length]
            rw [HWE.out]
            have HPL : Hid (movedD C k ++ [C.ins + (cntU C k : Int)] = movedD C (k + 1)) := by show _ = _; rw [movedD_succ HIN.out.1, if_pos HU.out]
            obtain ⟨pz, hpz⟩ : ∃ z, C.ins + (cntU C k : Int) = z := ⟨_, rfl⟩
            rw [hpz] at HPL ⊢
            clear hpz o0 o1 o2 o3 HWi HWE
            go_upto_region 14 with (at_builtin; refine appendIntG wa rfl (.tmp 59) (.tmp 62) rfl pz w3.heap.size (.slice (some rd) l cS) l (movedD C k) rfl rfl sta.row.2 (by omega) sa ?_; intro v7 w7 own7 b7 gr7)
            rw [ownBlockOf] at gr7
            have y7 := ya.grown gr7 (notOld GO.out.1)
            rw [HPL.out] at own7
            obtain ⟨S7, c7, rfl, st7⟩ := sta.putS own7 gr7
            have B7 := Lib.hid (Ba.out.trans b7)
            have s7 : w3.heap.size ≤ w7.heap.size := B7.out.size
            obtain ⟨o0, o1, o2, o3⟩ := st7.blk.four
            have c0 := y7.cell (i := 0) rfl
            have c1' := y7.cell (i := 1) rfl
            have c2' := y7.cell (i := 2) rfl
            clear own7 b7 gr7 sta ya
            go_wp2_with (at_builtin; refine appendGate w7 rfl (.tmp 65) (.tmp 67) rfl 1 va vb w3.heap.size (.slice R m cR) m ((keptTo C k).map (mvG (plD C))) rfl rfl st7.gates.2 (by omega) s7 ?_; intro v8 w8 own8 b8 gr8; rw [ownBlockOf] at gr8; rw [HKT.out] at own8; obtain ⟨R8, c8, rfl, p8, st8⟩ := st7.putR own8 gr8; have B8 := Lib.hid ((B7.out.trans b8).setCell (p := ⟨bo, 2, none⟩) hbo (.slice R8 (m + 1) c8)); have x8 := p8.cell (i := 2) rfl; have f8 := p8.free 2)
            go_roundw
            case rel =>
              have REL : DropRel C w3.heap.size bo n l0 w3 (.slice S7 (l + 1) c7) (.int .i64 ((k : Int) + 1)) _ := ⟨k + 1, S7, l + 1, c7, R8, m + 1, c8, by omega, by go_num, rfl, by have := HL.out; omega, by rw [cntU, if_pos HU.out, ← HMC.out], st8, B8.out⟩
              first | exact REL | ((repeat apply Exists.intro); exact ⟨REL, rfl⟩)
            case measure => simp [intOf]; omega
        · obtain ⟨jy, rfl⟩ : ∃ j : Nat, y = (j : Int) := ⟨y.toNat, by omega⟩
          obtain ⟨rd, va, hrd, hcy, HY⟩ := sth.row.has.elem (k := jy) (by omega)
          subst hrd
          have e0 : (0 : Int) ≤ (jy : Int) := by omega
          have e1 : (jy : Int) < (l : Int) := by omega
          have HVA : Hid (plD C jy = va) := by show _ = _; rw [HY.out]; exact (HPT.out (jy : Int) (by rw [partsOne]; simp) e0 e1).symm
          have g0c := yh.cell (i := 0) rfl
          have g1c := yh.cell (i := 1) rfl
          have f1c := yh.free 1
          clear hy hgate' HPT HUP
          go_upto_region 10 with (go_at_call 105; refine (HHh.out).mono ?_; rintro e wi ⟨rfl, rfl⟩)
          go_upto_region 11 with fail
          obtain ⟨wi, hwi⟩ : ∃ W, W = wh.setCell ⟨bg, 1, none⟩ (.int .i64 va) := ⟨_, rfl⟩
          have gqi : wh.grownBy wi (some bg) := by rw [hwi]; exact grown_setCell (World.grownBy.refl _ _) _ _
          have yi := yh.set 1 (.int .i64 va)
          rw [← hwi] at yi
          have sti := sth.later GO.out.1 GO.out.2.1 GO.out.2.2 gqi
          have Bi := Bh.grown gqi Bh.size (fun k hk => by simp at hk; omega)
          rw [← hwi]
          clear hwi gqi
          have h0c := yi.cell (i := 0) rfl
          clear hcy g1c f1c g0c yh sth
          go_upto_region 13 with fail
          clear h0c
          have HMV : Hid (mvG (plD C) (C.gs.getD k g0) = (2, va, 0)) := by
            show _ = _
            rw [HE.out]
            simp [mvG, HVA.out]
          have HKT : Hid ((keptTo C k).map (mvG (plD C)) ++ [(2, va, 0)] = (keptTo C (k + 1)).map (mvG (plD C))) := by
            show _ = _
            rw [keptTo, if_pos HU.out, List.map_append, List.map_singleton, HMV.out]
          have Bi := Lib.hid Bi
          have si : w3.heap.size ≤ wi.heap.size := Bi.out.size
          obtain ⟨o0, o1, o2, o3⟩ := sti.blk.four
          have HWi := Lib.hid (ciWires_any _ ⟨C.in0, C.in1, (keptTo C k).map (mvG (plD C)), []⟩ wi ⟨R, m, cR, none, 0, 0, rfl, sti.gates.has, Has.nil_, sti.gates.capLe, Nat.le_refl _, sti.gates.nilOk, fun _ => ⟨rfl, rfl⟩⟩ a0 (show C.in0 ≤ 1000 by omega) a2 (show C.in1 ≤ 1000 by omega) (by rw [List.length_map, keptTo_length]; have := cntU_le C k; omega))
          have STi := Lib.hid sti
          have Yi := Lib.hid yi
          clear sti yi
          go_wp2_with fail
          refine (HWi.out).mono ?_
          rintro e wa ⟨rfl, ba⟩
          have sta := STi.out.below ba
          have ya := Yi.out.below' ba
          have Ba := Lib.hid (Bi.out.trans (ba.mono si))
          have sa : w3.heap.size ≤ wa.heap.size := Ba.out.size
          have HWE : Hid ((Ci.wires ⟨C.in0, C.in1, (keptTo C k).map (mvG (plD C)), []⟩ : Int) = C.ins + (cntU C k : Int)) := by
            show _ = _
            simp only [Ci.wires, Ci.ins, List.length_map, keptTo_length]
          rw [HWE.out]
          have HPL : Hid (movedD C k ++ [C.ins + (cntU C k : Int)] = movedD C (k + 1)) := by show _ = _; rw [movedD_succ HIN.out.1, if_pos HU.out]
          obtain ⟨pz, hpz⟩ : ∃ z, C.ins + (cntU C k : Int) = z := ⟨_, rfl⟩
          rw [hpz] at HPL ⊢
          clear hpz o0 o1 o2 o3 HWi HWE
          go_upto_region 14 with (at_builtin; refine appendIntG wa rfl (.tmp 59) (.tmp 62) rfl pz w3.heap.size (.slice (some rd) l cS) l (movedD C k) rfl rfl sta.row.2 (by omega) sa ?_; intro v7 w7 own7 b7 gr7)
          rw [ownBlockOf] at gr7
          have y7 := ya.grown gr7 (notOld GO.out.1)
          rw [HPL.out] at own7
          obtain ⟨S7, c7, rfl, st7⟩ := sta.putS own7 gr7
          have B7 := Lib.hid (Ba.out.trans b7)
          have s7 : w3.heap.size ≤ w7.heap.size := B7.out.size
          obtain ⟨o0, o1, o2, o3⟩ := st7.blk.four
          have c0 := y7.cell (i := 0) rfl
          have c1' := y7.cell (i := 1) rfl
          have c2' := y7.cell (i := 2) rfl
          clear own7 b7 gr7 sta ya
          go_wp2_with (at_builtin; refine appendGate w7 rfl (.tmp 65) (.tmp 67) rfl 2 va 0 w3.heap.size (.slice R m cR) m ((keptTo C k).map (mvG (plD C))) rfl rfl st7.gates.2 (by omega) s7 ?_; intro v8 w8 own8 b8 gr8; rw [ownBlockOf] at gr8; rw [HKT.out] at own8; obtain ⟨R8, c8, rfl, p8, st8⟩ := st7.putR own8 gr8; have B8 := Lib.hid ((B7.out.trans b8).setCell (p := ⟨bo, 2, none⟩) hbo (.slice R8 (m + 1) c8)); have x8 := p8.cell (i := 2) rfl; have f8 := p8.free 2)
          go_roundw
          case rel =>
            have REL : DropRel C w3.heap.size bo n l0 w3 (.slice S7 (l + 1) c7) (.int .i64 ((k : Int) + 1)) _ := ⟨k + 1, S7, l + 1, c7, R8, m + 1, c8, by omega, by go_num, rfl, by have := HL.out; omega, by rw [cntU, if_pos HU.out, ← HMC.out], st8, B8.out⟩
            first | exact REL | ((repeat apply Exists.intro); exact ⟨REL, rfl⟩)
          case measure => simp [intOf]; omega
        · have h0c := yh.cell (i := 0) rfl
          clear hgate' HPT HUP
          go_upto_region 13 with (go_at_call 105; refine (HHh.out).mono ?_; rintro e wi ⟨rfl, rfl⟩)
          clear h0c
          have HMV : Hid (mvG (plD C) (C.gs.getD k g0) = (3, 0, 0)) := by
            show _ = _
            rw [HE.out]
            simp [mvG]
          have HKT : Hid ((keptTo C k).map (mvG (plD C)) ++ [(3, 0, 0)] = (keptTo C (k + 1)).map (mvG (plD C))) := by
            show _ = _
            rw [keptTo, if_pos HU.out, List.map_append, List.map_singleton, HMV.out]
          have Bh := Lib.hid Bh
          have sh : w3.heap.size ≤ wh.heap.size := Bh.out.size
          obtain ⟨o0, o1, o2, o3⟩ := sth.blk.four
          have HWi := Lib.hid (ciWires_any _ ⟨C.in0, C.in1, (keptTo C k).map (mvG (plD C)), []⟩ wh ⟨R, m, cR, none, 0, 0, rfl, sth.gates.has, Has.nil_, sth.gates.capLe, Nat.le_refl _, sth.gates.nilOk, fun _ => ⟨rfl, rfl⟩⟩ a0 (show C.in0 ≤ 1000 by omega) a2 (show C.in1 ≤ 1000 by omega) (by rw [List.length_map, keptTo_length]; have := cntU_le C k; omega))
          have STh := Lib.hid sth
          have Yh := Lib.hid yh
          clear sth yh
          go_wp2_with fail
          refine (HWi.out).mono ?_
          rintro e wa ⟨rfl, ba⟩
          have sta := STh.out.below ba
          have ya := Yh.out.below' ba
          have Ba := Lib.hid (Bh.out.trans (ba.mono sh))
          have sa : w3.heap.size ≤ wa.heap.size := Ba.out.size
          have HWE : Hid ((Ci.wires ⟨C.in0, C.in1, (keptTo C k).map (mvG (plD C)), []⟩ : Int) = C.ins + (cntU C k : Int)) := by
            show _ = _
            simp only [Ci.wires, Ci.ins, List.length_map, keptTo_length]
          rw [HWE.out]
          have HPL : Hid (movedD C k ++ [C.ins + (cntU C k : Int)] = movedD C (k + 1)) := by show _ = _; rw [movedD_succ HIN.out.1, if_pos HU.out]
          obtain ⟨pz, hpz⟩ : ∃ z, C.ins + (cntU C k : Int) = z := ⟨_, rfl⟩
          rw [hpz] at HPL ⊢
          clear hpz o0 o1 o2 o3 HWi HWE
          go_upto_region 14 with (at_builtin; refine appendIntG wa rfl (.tmp 59) (.tmp 62) rfl pz w3.heap.size (.slice S l cS) l (movedD C k) rfl rfl sta.row.2 (by omega) sa ?_; intro v7 w7 own7 b7 gr7)
          rw [ownBlockOf] at gr7
          have y7 := ya.grown gr7 (notOld GO.out.1)
          rw [HPL.out] at own7
          obtain ⟨S7, c7, rfl, st7⟩ := sta.putS own7 gr7
          have B7 := Lib.hid (Ba.out.trans b7)
          have s7 : w3.heap.size ≤ w7.heap.size := B7.out.size
          obtain ⟨o0, o1, o2, o3⟩ := st7.blk.four
          have c0 := y7.cell (i := 0) rfl
          have c1' := y7.cell (i := 1) rfl
          have c2' := y7.cell (i := 2) rfl
          clear own7 b7 gr7 sta ya
          go_wp2_with (at_builtin; refine appendGate w7 rfl (.tmp 65) (.tmp 67) rfl 3 0 0 w3.heap.size (.slice R m cR) m ((keptTo C k).map (mvG (plD C))) rfl rfl st7.gates.2 (by omega) s7 ?_; intro v8 w8 own8 b8 gr8; rw [ownBlockOf] at gr8; rw [HKT.out] at own8; obtain ⟨R8, c8, rfl, p8, st8⟩ := st7.putR own8 gr8; have B8 := Lib.hid ((B7.out.trans b8).setCell (p := ⟨bo, 2, none⟩) hbo (.slice R8 (m + 1) c8)); have x8 := p8.cell (i := 2) rfl; have f8 := p8.free 2)
          go_roundw
          case rel =>
            have REL : DropRel C w3.heap.size bo n l0 w3 (.slice S7 (l + 1) c7) (.int .i64 ((k : Int) + 1)) _ := ⟨k + 1, S7, l + 1, c7, R8, m + 1, c8, by omega, by go_num, rfl, by have := HL.out; omega, by rw [cntU, if_pos HU.out, ← HMC.out], st8, B8.out⟩
            first | exact REL | ((repeat apply Exists.intro); exact ⟨REL, rfl⟩)
          case measure => simp [intOf]; omega
    · obtain rfl : k = n := by omega
      have hpick := pickDrop HGO.out HIN.out.1
      rw [HGL.out] at hpick
      have HPK := Lib.hid hpick
      have BK := Lib.hid bk
      have sk : w3.heap.size ≤ wr.heap.size := bk.size
      obtain ⟨k0, k1, k2, k3⟩ := (HP3.out.below' bk).four
      have hin : ∀ j, j < C.os.length → 0 ≤ C.os.getD j 0 ∧ C.os.getD j 0 < (l : Int) := fun j hj => by
        have h1 := HGO.out.out j hj
        have h2 := HL.out
        have h3 := HP.out
        have h4 := HGL.out
        unfold Ci.wires at h1
        unfold Ci.ins at h3
        omega
      have HPi := Lib.hid (ciPick_any S l cS (movedD C k) O q d C.os wr st.row.has (by omega) (HO3.out.below bk) (by omega) hin)
      rw [HPK.out] at HPi
      have ST := Lib.hid st
      clear hpick bk hin st
      go_wp2_with fail
      refine (HPi.out).mono ?_
      rintro e wp ⟨R9, c9, rfl, o9, b9⟩
      have st9 := ST.out.below b9
      have B9 := BK.out.trans (b9.mono sk)
      have r9 := HR3.out.below' B9
      have x9 := st9.blk.cell (i := 3) rfl
      have f9 := st9.blk.free 3
      obtain ⟨wq, hwq⟩ : ∃ W, W = wp.setCell ⟨bo, 3, none⟩ (.slice R9 q c9) := ⟨_, rfl⟩
      have gq : wp.grownBy wq (some bo) := by rw [hwq]; exact grown_setCell (World.grownBy.refl _ _) _ _
      have yq : Blk wq bo #[.int .i64 C.in0, .int .i64 C.in1, .slice R m cR, .slice R9 q c9] 29 := by rw [hwq]; exact st9.blk.set 3 _
      have oGq := st9.gates.kept gq (fun a e e2 => st9.gates.notBlk st9.blk (by decide) (by rw [e]; simpa [blockOf] using e2.symm))
      have oIq := o9.kept gq (fun a e e2 => o9.notBlk st9.blk (by decide) (by rw [e]; simpa [blockOf] using e2.symm))
      have Bq := B9.grown gq B9.size (fun k hk => by simp at hk; omega)
      have rq := r9.grown gq (by simp; omega)
      have HDC : Hid (dropC C = ⟨C.in0, C.in1, (keptTo C k).map (mvG (plD C)), C.os.map fun z => plD C z.toNat⟩) := by show _ = _; rw [dropC, HGL.out]
      have on : OwnC wq w3.heap.size (.agg #[.int .i64 C.in0, .int .i64 C.in1, .slice R m cR, .slice R9 q c9]) (dropC C) := by
        rw [HDC.out]
        exact ⟨R, m, cR, R9, q, c9, rfl, oGq, oIq.mono sk⟩
      have Bw := B3.trans (Bq.mono B3.size)
      obtain ⟨c0, c1', c2', c3'⟩ := yq.four
      obtain ⟨d0, d1, d2, d3⟩ := rq.four
      have e0 := rq.free 0
      have e1 := rq.free 1
      have e2 := rq.free 2
      have e3 := rq.free 3
      obtain ⟨zn, h1, h2⟩ := fourSet (a := .int .i64 C.in0) (b := .int .i64 C.in1) (c := .slice R m cR) (d := .slice R9 q c9) on rq (show w.heap.size + 1 < w3.heap.size by omega) Bw (Nat.le_succ _)
      have HF := Lib.hid (And.intro zn (And.intro h1 h2))
      clear st9 r9 yq oGq oIq Bq rq on zn h1 h2 gq B9 o9 b9 k0 k1 k2 k3
      go_upto_region 17 with fail
      rw [← hwq]
      clear hwq x9 f9
      go_wp2_with fail
      obtain ⟨zn, h1, h2⟩ := HF.out
      obtain ⟨z0, z1, z2, z3⟩ := zn.four
      refine bodyPost_ret (v := .agg #[.int .i64 C.in0, .int .i64 C.in1, .slice R m cR, .slice R9 q c9]) (by simp [results, Try.results128, go_sem, z0, z1, z2, z3]) rfl ⟨_, rfl, h1.mono (by omega), h2⟩

end Go.Proofs.Yteiibneaihdmbaa

