/- The model's MergeGates. For every circuit of at most 1048576 gates and outs. -/
import Derived.Test.YteiibneaihdmbaaSiEA
import Derived.Test.YteiibneaihdmbaaSiG7
import Derived.Deep.DeepCutAuto
import Derived.Deep.CutBlock
namespace Go.Proofs.Yteiibneaihdmbaa
open Go.RowKit
set_option maxRecDepth 100000

/-- A store into the row of places. -/
theorem DropSt.setS {w : World} {T b f l cS m cR : Nat} {x y ov : Value} {R : Option Addr} {mv : List Int} {gs : List Ga} (h : DropSt w T b x y ov (some ⟨f, 0, none⟩) l cS mv R m cR gs) (j : Nat) (z : Int) :
    DropSt (w.setCell ⟨f, j, none⟩ (.int .i64 z)) T b x y ov (some ⟨f, 0, none⟩) l cS (mv.set j z) R m cR gs := by
  have hg : w.grownBy (w.setCell ⟨f, j, none⟩ (.int .i64 z)) (blockOf (some ⟨f, 0, none⟩)) := grown_setCell (World.grownBy.refl _ _) _ _
  exact ⟨h.row.putR j z, h.blk.grown hg (h.row.notBlk h.blk (by decide)), h.gates.apartI h.row hg, h.base⟩

/-- What holds behind the first k gates. -/
def MoRel (C : Ci) (b5 : Nat) (S : Option Addr) (n N cf : Nat) (w3 : World) (iv : Value) (wr : World) : Prop :=
  ∃ (k : Nat) (R : Option Addr) (cR : Nat), k ≤ n ∧ iv = .int .i64 k ∧ DropSt wr w3.heap.size b5 (.int .i64 C.in0) (.int .i64 C.in1) (.slice none 0 0) S N cf (mgV C n k ((C.ins.toNat + k : Nat) : Int)) R k cR (mgG C k) ∧ Below w3.heap.size w3 wr
/-- What holds while the gates behind are looked at. -/
def MiRel (C : Ci) (b5 f bg n N cf k : Nat) (R : Option Addr) (cR : Nat) (x y z : Int) (w3 : World) (iv : Value) (wr : World) : Prop :=
  ∃ (j : Nat) (t : Int), j ≤ k ∧ iv = .int .i64 t ∧ t = (j : Int) - 1 ∧ DropSt wr w3.heap.size b5 (.int .i64 C.in0) (.int .i64 C.in1) (.slice none 0 0) (some ⟨f, 0, none⟩) N cf (mgV C n k ((C.ins.toNat : Int) + (fdn (mgG C k) (x, y, z) k (k - j) : Int))) R k cR (mgG C k) ∧ Blk wr bg #[.int .i64 x, .int .i64 y, .int .i64 z] 69 ∧ Below w3.heap.size w3 wr

set_option maxRecDepth 100000 in
set_option maxHeartbeats 4000000 in
theorem spec_MergeGates (v : Value) (C : Ci) (RC : Ci) (rb : Bool) (w : World) (h : HasC w v C) (hf : Fit C) (hm : m_MergeGates C = (RC, rb)) :
    Calls Try.prog 16 #[v] w fun e w' => ∃ u, e = .returned (.tuple #[u, .bool rb]) ∧ HasC w' u RC ∧ RC.gs.length ≤ 1048576 ∧ RC.os.length ≤ 1048576 ∧ Below w.heap.size w w' := by
  obtain ⟨G, n, c, O, q, d, rfl, hGs, hO, _, hqd, _, hOn⟩ := id h
  have HM := Lib.hid hm
  have HGS := Lib.hid hGs
  have HOS := Lib.hid hO
  have HGL : Hid (C.gs.length = n) := hGs.1
  have HOL : Hid (C.os.length = q) := hO.1
  have b1 := belowNew w (.cells #[.int .i64 C.in0, .int .i64 C.in1, .slice G n c, .slice O q d] 29)
  have p1 := Blk.new w #[.int .i64 C.in0, .int .i64 C.in1, .slice G n c, .slice O q d] 29
  obtain ⟨W1, hW1⟩ : ∃ W, W = w.alloc (.cells #[.int .i64 C.in0, .int .i64 C.in1, .slice G n c, .slice O q d] 29) := ⟨_, rfl⟩
  have s1 : W1.heap.size = w.heap.size + 1 := by rw [hW1]; simp
  rw [← hW1] at b1 p1
  have b2 := belowNew W1 (.cells #[.int .i64 0, .int .i64 0, .slice none 0 0, .slice none 0 0] 29)
  have r2 := Blk.newAt (k := w.heap.size + 1) W1 #[.int .i64 0, .int .i64 0, .slice none 0 0, .slice none 0 0] 29 s1.symm
  have p2 := p1.below' b2
  obtain ⟨W2, hW2⟩ : ∃ W, W = W1.alloc (.cells #[.int .i64 0, .int .i64 0, .slice none 0 0, .slice none 0 0] 29) := ⟨_, rfl⟩
  have s2 : w.heap.size + 2 ≤ W2.heap.size := by rw [hW2]; simp [s1]
  rw [← hW2] at b2 r2 p2
  have B2 := b1.trans (b2.mono b1.size)
  have h2 := h.below B2
  have HG := Lib.hid (ciGood_any _ C (gd C) W2 h2 (fitLen hf) rfl)
  obtain ⟨k0, k1, k2, k3⟩ := p2.four
  clear h hm b1 p1 b2 s1 hGs hO
  cases eg : gd C with
  | false =>
    have e := HM.out
    rw [m_MergeGates, eg] at e
    obtain ⟨rfl, rfl⟩ := Prod.mk.inj e
    clear e
    go_enter Try.func16, Try.ntmps16
    go_wp2_with fail
    rw [← hW1, ← hW2]
    refine (HG.out).mono ?_
    rintro e w3 ⟨rfl, b3⟩
    rw [eg]
    clear hW1 hW2
    have r3 := r2.below' b3
    have B3 := B2.trans (b3.mono B2.size)
    obtain ⟨c0, c1, c2, c3⟩ := r3.four
    have f0 := r3.free 0
    have f1 := r3.free 1
    have f2 := r3.free 2
    have f3 := r3.free 3
    clear r2 b3
    go_wp2_with fail
    have r4 := (((r3.set 0 (.int .i64 0)).set 1 (.int .i64 0)).set 2 (.slice none 0 0)).set 3 (.slice none 0 0)
    obtain ⟨e0, e1, e2, e3⟩ := (show Blk _ (w.heap.size + 1) #[.int .i64 0, .int .i64 0, .slice none 0 0, .slice none 0 0] 29 from r4).four
    refine bodyPost_ret (v := .tuple #[.agg #[.int .i64 0, .int .i64 0, .slice none 0 0, .slice none 0 0], .bool false]) (by simp [results, Try.results16, go_sem, e0, e1, e2, e3]) rfl ⟨_, rfl, (zeroOwnC _ w.heap.size).has, by simp, by simp, ?_⟩
    exact (((B3.setCell (by show w.heap.size ≤ w.heap.size + 1; omega) _).setCell (by show w.heap.size ≤ w.heap.size + 1; omega) _).setCell (by show w.heap.size ≤ w.heap.size + 1; omega) _).setCell (by show w.heap.size ≤ w.heap.size + 1; omega) _
  | true =>
    have e := HM.out
    rw [m_MergeGates, if_pos eg] at e
    obtain ⟨e1, rfl⟩ := Prod.mk.inj e
    have HD : Hid (mergeC C = RC) := e1
    have hGood := gd_yes eg
    have HGO := Lib.hid hGood
    have n300 : n ≤ 300 := by have := hGood.g; have := HGL.out; omega
    have q40 : q ≤ 40 := by have := hGood.o; have := HOL.out; omega
    obtain ⟨a0, a1, a2, a3⟩ : 0 ≤ C.in0 ∧ C.in0 ≤ 20 ∧ 0 ≤ C.in1 ∧ C.in1 ≤ 20 := ⟨hGood.a0, hGood.a1, hGood.b0, hGood.b1⟩
    have hsz : RC.gs.length ≤ 1048576 ∧ RC.os.length ≤ 1048576 := by
      rw [← e1, mergeC]
      simp only [List.length_map, mgG_length]
      have := HGL.out
      have := HOL.out
      omega
    have HSZ := Lib.hid hsz
    obtain ⟨p, hl0⟩ : ∃ p : Nat, C.ins.toNat = p := ⟨_, rfl⟩
    have hp : C.in0 + C.in1 = (p : Int) := by unfold Ci.ins at hl0; omega
    have p40 : p ≤ 40 := by omega
    have HL0 := Lib.hid hl0
    have HP := Lib.hid hp
    clear e e1 hGood hsz hl0 hp
    go_enter Try.func16, Try.ntmps16
    go_wp2_with fail
    rw [← hW1, ← hW2]
    refine (HG.out).mono ?_
    rintro e w3 ⟨rfl, b3⟩
    rw [eg]
    clear hW1 hW2
    have r3 := r2.below' b3
    have p3 := p2.below' b3
    have B3 := B2.trans (b3.mono B2.size)
    have s3 : w.heap.size + 2 ≤ w3.heap.size := Nat.le_trans s2 b3.size
    have HC3 := Lib.hid (HGS.out.below B3)
    have HO3 := Lib.hid (HOS.out.below B3)
    have HP3 := Lib.hid p3
    have HR3 := Lib.hid r3
    have HB3 := Lib.hid B3
    have h3 := h2.below b3
    obtain ⟨N, hN⟩ : ∃ N, p + n = N := ⟨_, rfl⟩
    have HCw : Hid (Calls Try.prog 60 #[.agg #[.int .i64 C.in0, .int .i64 C.in1, .slice G n c, .slice O q d]] w3 fun e w' => e = .returned (.int .i64 (N : Int)) ∧ Below w3.heap.size w3 w') := by
      have e : C.wires = (N : Int) := by have := HP.out; have := HGL.out; unfold Ci.wires; omega
      show Calls _ _ _ _ _
      rw [← e]; exact ciWires_any _ C w3 h3 a0 (by omega) a2 (by omega) (by have := HGL.out; omega)
    have HRg : Hid (∀ W, Calls Try.prog 59 #[.int .i64 0, .int .i64 (N : Int)] W fun e w' => ∃ R c, e = .returned (.slice R N c) ∧ Own w' W.heap.size R N c (mgV C n 0 ((C.ins.toNat + 0 : Nat) : Int)) ∧ Below W.heap.size W w') := fun W => by
      rw [mgV_start, HL0.out, hN]; exact gdRange_any 0 N W (by omega) (by omega) (by omega)
    have HI : Hid (∀ W', Below w3.heap.size w3 W' → Calls Try.prog 62 #[.agg #[.int .i64 C.in0, .int .i64 C.in1, .slice G n c, .slice O q d]] W' fun e w' => e = .returned (.int .i64 (p : Int)) ∧ Below W'.heap.size W' w') := fun W' hb => by
      have e : C.ins = (p : Int) := HP.out
      rw [← e]; exact ciInputs_any _ C W' (h3.below hb) a0 (by omega) a2 (by omega)
    have HNN := Lib.hid hN
    have N340 : N ≤ 340 := by omega
    clear r2 b3 k0 k1 k2 k3 p2 h2 HG r3 B3 hN
    obtain ⟨k0, k1, k2, k3⟩ := p3.four
    go_wp2_with fail
    refine (HCw.out).mono ?_
    rintro e w4 ⟨rfl, b4⟩
    have p4 := p3.below' b4
    clear k0 k1 k2 k3
    obtain ⟨k0, k1, k2, k3⟩ := p4.four
    go_wp2_with fail
    refine (HRg.out w4).mono ?_
    rintro e w5 ⟨F5, cf, rfl, o5, b5x⟩
    have p5 := p4.below' b5x
    have B5 := b4.trans (b5x.mono b4.size)
    obtain ⟨b5, hb5⟩ : ∃ b, w5.heap.size = b := ⟨_, rfl⟩
    have b6 := belowNew w5 (.cells #[.int .i64 C.in0, .int .i64 C.in1, .slice none 0 0, .slice none 0 0] 29)
    have y6 := Blk.newAt (k := b5) w5 #[.int .i64 C.in0, .int .i64 C.in1, .slice none 0 0, .slice none 0 0] 29 hb5.symm
    have o6 := (o5.mono b4.size).below b6
    have p6 := p5.below' b6
    obtain ⟨W6, hW6⟩ : ∃ W, W = w5.alloc (.cells #[.int .i64 C.in0, .int .i64 C.in1, .slice none 0 0, .slice none 0 0] 29) := ⟨_, rfl⟩
    rw [← hW6] at b6 y6 o6 p6
    have hT5 : w3.heap.size ≤ b5 := by have := B5.size; omega
    have HREL0 : MoRel C b5 F5 n N cf w3 (.int .i64 0) W6 := ⟨0, none, 0, Nat.zero_le _, rfl, ⟨o6, y6, OwnG.nil_ _ _, hT5⟩, B5.trans (b6.mono B5.size)⟩
    have k5 := p5.four
    have k6 := p6.four
    clear k0 k1 k2 k3 p3 p4 o5 b5x b4 B5 b6 y6 o6 p5
    obtain ⟨k0, k1, k2, k3⟩ := k5
    go_upto_region 5 with fail
    rw [← hW6]
    clear hW6 hb5 k0 k1 k2 k3 p6
    obtain ⟨k0, k1, k2, k3⟩ := k6
    go_wp2_with fail
    clear k0 k1 k2 k3
    go_loopw [24] (fun iv wr => MoRel C b5 F5 n N cf w3 iv wr) (fun iv _ => n - (intOf iv).toNat)
    case atStart => exact HREL0
    case round =>
      obtain ⟨k, R, cR, hk, rfl, st, bk⟩ := hrel
      clear HREL0 HCw HRg
      by_cases hlt : k < n
      · obtain ⟨f, rfl⟩ := st.row.spot (by have := HNN.out; omega)
        obtain ⟨ad, x, y, z, rfl, hgx, hgy, hgz, HE⟩ := (HC3.out.below bk).elem hlt
        have hgate : gateOk ((p + k : Nat) : Int) (x, y, z) = true := by
          have := HGO.out.gate k (by rw [HGL.out]; exact hlt)
          rw [HE.out] at this
          exact gateOk_mono this (by have := HP.out; unfold Ci.ins; push_cast; omega)
        obtain ⟨bg, hbg⟩ : ∃ b, wr.heap.size = b := ⟨_, rfl⟩
        have hold := st.old
        rw [hbg] at hold
        have GO := Lib.hid hold
        have bA := belowNew wr (.cells #[.int .i64 x, .int .i64 y, .int .i64 z] 69)
        have yh := Blk.newAt (k := bg) wr #[.int .i64 x, .int .i64 y, .int .i64 z] 69 hbg.symm
        have sth := st.below bA
        have q0 : (0 : Int) ≤ (k : Int) := by omega
        have q1 : (k : Int) < (n : Int) := by omega
        obtain ⟨wh, hwh⟩ : ∃ W, W = wr.alloc (.cells #[.int .i64 x, .int .i64 y, .int .i64 z] 69) := ⟨_, rfl⟩
        rw [← hwh] at bA yh sth
        have Bh := bk.trans (bA.mono bk.size)
        have hbgT : w3.heap.size ≤ bg := by have := bk.size; omega
        have HPT : Hid (∀ i : Nat, i < p + k → (mgV C n k ((C.ins.toNat + k : Nat) : Int)).getD i 0 = mgP C k i) := fun i hi => mgV_at (by rw [HL0.out]; exact hi) hk
        have hpk : p + k < N := by have := HNN.out; omega
        clear st bk bA hold
        go_upto_region 8 with fail
        rw [← hwh]
        clear hwh hgx hgy hgz hbg
        rcases gateOk_yes hgate with ⟨hx01, hy, hz⟩ | ⟨rfl, hy, rfl⟩ | ⟨rfl, rfl, rfl⟩
        · obtain ⟨jy, rfl⟩ : ∃ j : Nat, y = (j : Int) := ⟨y.toNat, by omega⟩
          obtain ⟨jz, rfl⟩ : ∃ j : Nat, z = (j : Int) := ⟨z.toNat, by omega⟩
          obtain ⟨va, hva⟩ : ∃ va, (mgV C n k ((C.ins.toNat + k : Nat) : Int)).getD jy 0 = va := ⟨_, rfl⟩
          have hcy : wh.cell? ⟨f, jy, none⟩ = some (.int .i64 va) := by rw [← hva]; exact sth.row.cellR (by omega)
          have e0 : (0 : Int) ≤ (jy : Int) := by omega
          have e1 : (jy : Int) < (N : Int) := by omega
          have e2 : (0 : Int) ≤ (jz : Int) := by omega
          have e3 : (jz : Int) < (N : Int) := by omega
          have HVA : Hid (mgP C k jy = va) := by show _ = _; rw [← hva]; exact (HPT.out jy (by omega)).symm
          have HVB0 : Hid ((mgV C n k ((C.ins.toNat + k : Nat) : Int)).getD jz 0 = mgP C k jz) := HPT.out jz (by omega)
          clear hy hz hgate hva
          rcases hx01 with rfl | rfl
          · have h0c := yh.cell (i := 0) rfl
            have g1c := yh.cell (i := 1) rfl
            have f1c := yh.free 1
            go_upto_region 10 with fail
            clear h0c hcy g1c f1c
            obtain ⟨wi, hwi⟩ : ∃ W, W = wh.setCell ⟨bg, 1, none⟩ (.int .i64 va) := ⟨_, rfl⟩
            have gqi : wh.grownBy wi (some bg) := by rw [hwi]; exact grown_setCell (World.grownBy.refl _ _) _ _
            have yi := yh.set 1 (.int .i64 va)
            rw [← hwi] at yi
            have sti := sth.later GO.out.1 GO.out.2.1 GO.out.2.2 gqi
            have Bi := Bh.grown gqi Bh.size (fun k hk => by simp at hk; omega)
            rw [← hwi]
            clear hwi gqi yh sth Bh
            obtain ⟨vb, hvb⟩ : ∃ vb, (mgV C n k ((C.ins.toNat + k : Nat) : Int)).getD jz 0 = vb := ⟨_, rfl⟩
            have hcz : wi.cell? ⟨f, jz, none⟩ = some (.int .i64 vb) := by rw [← hvb]; exact sti.row.cellR (by omega)
            have HVB : Hid (mgP C k jz = vb) := by show _ = _; rw [← hvb]; exact HVB0.out.symm
            clear hvb
            have h0c := yi.cell (i := 0) rfl
            have g2c := yi.cell (i := 2) rfl
            have f2c := yi.free 2
            clear HVB0
            go_upto_region 12 with fail
            clear h0c hcz g2c f2c
            obtain ⟨wj, hwj⟩ : ∃ W, W = wi.setCell ⟨bg, 2, none⟩ (.int .i64 vb) := ⟨_, rfl⟩
            have gqj : wi.grownBy wj (some bg) := by rw [hwj]; exact grown_setCell (World.grownBy.refl _ _) _ _
            have yj := yi.set 2 (.int .i64 vb)
            rw [← hwj] at yj
            have stj := sti.later GO.out.1 GO.out.2.1 GO.out.2.2 gqj
            have Bj := Bi.grown gqj Bi.size (fun k hk => by simp at hk; omega)
            rw [← hwj]
            clear hwj gqj yi sti Bi
            have HMV : Hid (mvG (mgP C k) (C.gs.getD k g0) = (0, va, vb)) := by
              show _ = _
              rw [HE.out]
              simp [mvG, HVA.out, HVB.out]
            have yjj : Blk wj bg #[.int .i64 0, .int .i64 va, .int .i64 vb] 69 := yj
            clear yj
            have sj : w3.heap.size ≤ wj.heap.size := Bj.size
            have HI0 : MiRel C b5 f bg n N cf k R cR 0 va vb w3 (.int .i64 ((k : Int) - 1)) wj := ⟨k, (k : Int) - 1, Nat.le_refl _, rfl, rfl, by rw [Nat.sub_self]; simpa [fdn] using stj, yjj, Bj⟩
            have HEND : Hid ((C.ins.toNat : Int) + (fdn (mgG C k) (0, va, vb) k (k - 0) : Int) = mgP C (k + 1) (C.ins.toNat + k)) := by
              show _ = _
              rw [Nat.sub_zero, fdn_all, mgP_last, HMV.out]
              congr 2
              exact eqTo_congr (fun j hj => (mgG_at C hj).symm)
            have HTWO : Hid ((0 : Int) = 2 → (vb : Int) = 0) := by
              have := mvG_two (pl := mgP C k) (g := C.gs.getD k g0)
              rw [HMV.out] at this
              exact this
            have HNX : Hid (mgG C k ++ [(0, va, vb)] = mgG C (k + 1)) := by show _ = _; rw [mgG_next, HMV.out]
            clear stj yjj Bj sj HMV HPT
            go_wp2_with fail
            go_loopw [8] (fun iv wr => MiRel C b5 f bg n N cf k R cR 0 va vb w3 iv wr) (fun iv _ => (intOf iv + 1).toNat)
            case atStart => exact HI0
            case round =>
              obtain ⟨j, t, hj, rfl, ht, st, yg, bq⟩ := hrel
              clear HI0
              by_cases hj0 : j = 0
              · subst hj0
                have ht0 : t < 0 := by omega
                clear ht
                rw [HEND.out, mgV_next] at st
                have ST := Lib.hid st
                have YG := Lib.hid yg
                have BQ := Lib.hid bq
                have sq := bq.size
                obtain ⟨o0, o1, o2, o3⟩ := st.blk.four
                have f2 := st.blk.free 2
                obtain ⟨c0, c1, c2⟩ := yg.three
                clear st yg bq
                go_wp2_with (at_builtin; refine appendGate wr rfl (.tmp 76) (.tmp 78) rfl 0 va vb w3.heap.size (.slice R k cR) k (mgG C k) rfl rfl ST.out.gates.2 (by omega) sq ?_; intro v8 w8 own8 b8 gr8; rw [ownBlockOf] at gr8; rw [HNX.out] at own8; obtain ⟨R8, c8, rfl, p8, st8⟩ := ST.out.putR own8 gr8; have B8 := Lib.hid ((BQ.out.trans b8).setCell (p := ⟨b5, 2, none⟩) ST.out.base (.slice R8 (k + 1) c8)); have ST8 := Lib.hid st8; have x8 := p8.cell (i := 2) rfl; have f8 := p8.free 2; clear st8 gr8 b8 own8)
                go_roundw
                case rel =>
                  have REL : MoRel C b5 (some ⟨f, 0, none⟩) n N cf w3 (.int .i64 ((k : Int) + 1)) _ := ⟨k + 1, R8, c8, by omega, by go_num, ST8.out, B8.out⟩
                  first | exact REL | ((repeat apply Exists.intro); exact ⟨REL, rfl⟩)
                case measure => simp [intOf]; omega
              · obtain ⟨i, rfl⟩ : ∃ i, j = i + 1 := ⟨j - 1, by omega⟩
                obtain rfl : t = (i : Int) := by omega
                have i0 : (0 : Int) ≤ (i : Int) := by omega
                have ik : (i : Int) < (k : Int) := by omega
                obtain ⟨rb, cap, hv, _, _⟩ := st.gates.2.form (by omega)
                obtain rfl : R = some ⟨rb, 0, none⟩ := by injection hv
                obtain ⟨gx, gy, gz, hgi⟩ : ∃ gx gy gz, (mgG C k).getD i g0 = (gx, gy, gz) := ⟨_, _, _, rfl⟩
                obtain ⟨b, hb⟩ : ∃ b, sameI (gx, gy, gz) (0, va, vb) = b := ⟨_, rfl⟩
                have hbG : sameG (gx, gy, gz) (0, va, vb) = b := by
                  rw [← hb]
                  refine (sameI_is ?_ (by first | exact HTWO.out | (intro _; rfl))).symm
                  have := mgG_two C k i (by omega)
                  rw [hgi] at this
                  exact this
                have HFD : Hid (fdn (mgG C k) (0, va, vb) k (k - i) = if b = true then i else fdn (mgG C k) (0, va, vb) k (k - (i + 1))) := by
                  show _ = _
                  rw [show k - i = (k - (i + 1)) + 1 by omega, fdn, show k - (k - (i + 1) + 1) = i by omega, hgi, hb]
                have D : Below wr.heap.size wr wr.drew := (Below.refl _ wr).drew
                have HSame := Lib.hid (siSame_any gx gy gz 0 va vb b wr.drew hbG)
                have STq := Lib.hid st
                have YGq := Lib.hid yg
                have BQq := Lib.hid bq
                have hK : Hid (∀ W', Below wr.heap.size wr W' → W'.cell? ⟨b5, 2, none⟩ = some (.slice (some ⟨rb, 0, none⟩) k cR) ∧ W'.cell? ⟨rb, i * 3, none⟩ = some (.int .i64 gx) ∧ W'.cell? ⟨rb, i * 3 + 1, none⟩ = some (.int .i64 gy) ∧ W'.cell? ⟨rb, i * 3 + 2, none⟩ = some (.int .i64 gz) ∧ W'.cell? ⟨bg, 0, none⟩ = some (.int .i64 0) ∧ W'.cell? ⟨bg, 1, none⟩ = some (.int .i64 va) ∧ W'.cell? ⟨bg, 2, none⟩ = some (.int .i64 vb)) := fun W' hb' => by
                  have o := STq.out.gates.below hb'
                  obtain ⟨g1, g2, g3⟩ := gvals_cell (mgG C k) i (by rw [o.1]; omega)
                  rw [hgi] at g1 g2 g3
                  obtain ⟨c0, c1, c2⟩ := (YGq.out.below' hb').three
                  exact ⟨(STq.out.blk.below' hb').cell (i := 2) rfl, (o.2.cellAt (i * 3) (by omega)).trans g1, (o.2.cellAt (i * 3 + 1) (by omega)).trans g2, (o.2.cellAt (i * 3 + 2) (by omega)).trans g3, c0, c1, c2⟩
                clear st yg bq hv hb hbG hgi ht
                go_upto_region 15 with fail
                go_cut [64] (fun v wx => v = .bool b ∧ Hid (Below wr.heap.size wr wx))
                case first =>
                  obtain ⟨u0, u1, u2, u3, u4, u5, u6⟩ := hK.out wr.drew D
                  go_wp2_with fail
                  first
                    | (go_region_law (first | (go_simp; go_at_call 61; refine Calls.mono HSame.out ?_; rintro e w4 ⟨rfl, b4⟩; have Bq := D.trans (b4.mono D.size); dsimp only)))
                    | fail
                  all_goals
                    go_wp2_with fail
                    go_meet
                    exact ⟨rfl, Lib.hid Bq⟩
                case rest =>
                  obtain ⟨rfl, BC⟩ := hcut
                  obtain ⟨wx, rfl⟩ : ∃ x, x = wc := ⟨_, rfl⟩
                  have stx := STq.out.below BC.out
                  have ygx := YGq.out.below' BC.out
                  have bx := BQq.out.trans (BC.out.mono BQq.out.size)
                  clear hK HSame STq YGq BQq D BC
                  cases b with
                  | false =>
                    have HFX : Hid (fdn (mgG C k) (0, va, vb) k (k - i) = fdn (mgG C k) (0, va, vb) k (k - (i + 1))) := by show _ = _; rw [HFD.out]; rfl
                    rw [← HFX.out] at stx
                    have REL : MiRel C b5 f bg n N cf k (some ⟨rb, 0, none⟩) cR 0 va vb w3 (.int .i64 ((i : Int) - 1)) wx := ⟨i, (i : Int) - 1, by omega, rfl, rfl, stx, ygx, bx⟩
                    have HREL := Lib.hid REL
                    clear REL stx ygx bx
                    go_wp2_with fail
                    go_roundw
                    case rel => first | exact HREL.out | ((repeat apply Exists.intro); exact ⟨HREL.out, rfl⟩)
                    case measure => first | (simp [intOf]; done) | (simp [intOf]; omega)
                  | true =>
                    have HFX : Hid (fdn (mgG C k) (0, va, vb) k (k - i) = i) := by show _ = _; rw [HFD.out]; rfl
                    have STx := Lib.hid stx
                    have YGx := Lib.hid ygx
                    have BX := Lib.hid bx
                    have D : Below wx.heap.size wx wx.drew := (Below.refl _ wx).drew
                    have hK : Hid (∀ W', Below wx.heap.size wx W' → W'.cell? ⟨w.heap.size, 0, none⟩ = some (.int .i64 C.in0) ∧ W'.cell? ⟨w.heap.size, 1, none⟩ = some (.int .i64 C.in1) ∧ W'.cell? ⟨w.heap.size, 2, none⟩ = some (.slice (some ad) n c) ∧ W'.cell? ⟨w.heap.size, 3, none⟩ = some (.slice O q d) ∧ (∃ z0, W'.cell? ⟨f, p + k, none⟩ = some (.int .i64 z0)) ∧ W'.frozen? ⟨f, p + k, none⟩ = false) := fun W' hb' => by
                      obtain ⟨x0, x1, x2, x3⟩ := (HP3.out.below' (BX.out.trans (hb'.mono BX.out.size))).four
                      have o := STx.out.row.below hb'
                      exact ⟨x0, x1, x2, x3, ⟨_, o.cellR (by omega)⟩, o.freeR _⟩
                    have HI2 : Hid (∀ W', Below wx.heap.size wx W' → Calls Try.prog 62 #[.agg #[.int .i64 C.in0, .int .i64 C.in1, (.slice (some ad) n c), .slice O q d]] W' fun e w' => e = .returned (.int .i64 (p : Int)) ∧ Below W'.heap.size W' w') := fun W' hb' => HI.out W' (BX.out.trans (hb'.mono BX.out.size))
                    have w1 : IntKind.i64.wrap ((p : Int) + (k : Int)) = (p : Int) + (k : Int) := wrapIn (by omega) (by omega)
                    have w2 : IntKind.i64.wrap ((p : Int) + (i : Int)) = (p : Int) + (i : Int) := wrapIn (by omega) (by omega)
                    have i1 : (0 : Int) ≤ (p : Int) + (k : Int) := by omega
                    have i2 : (p : Int) + (k : Int) < (N : Int) := by omega
                    have i3 : ((p : Int) + (k : Int)).toNat = p + k := by omega
                    obtain ⟨u0, u1, u2, u3, ⟨z0, u4⟩, u5⟩ := hK.out wx.drew D
                    clear stx ygx bx
                    have hset : Hid ((mgV C n k ((C.ins.toNat : Int) + (fdn (mgG C k) (0, va, vb) k (k - (i + 1)) : Int))).set (p + k) ((p : Int) + (i : Int)) = mgV C n k ((C.ins.toNat : Int) + (fdn (mgG C k) (0, va, vb) k (k - i) : Int))) := by
                      show _ = _
                      rw [HFX.out, ← HL0.out, mgV_set]
                    have hfg : f < bg := GO.out.1 _ rfl
                    go_upto_region 16 with fail
                    first
                      | (go_region_law (first
                        | (go_simp; go_at_call 62; refine Calls.mono (HI2.out w4 Bq) ?_; rintro e w5 ⟨rfl, b5'⟩; have Br := Bq.trans (b5'.mono Bq.size); obtain ⟨t0, t1, t2, t3, ⟨z2, t4⟩, t5⟩ := hK.out w5 Br; dsimp only)
                        | (go_simp; go_at_call 62; refine Calls.mono (HI2.out wx.drew D) ?_; rintro e w4 ⟨rfl, b4⟩; have Bq := D.trans (b4.mono D.size); obtain ⟨s0, s1, s2', s3', ⟨z1, s4⟩, s5⟩ := hK.out w4 Bq; dsimp only)))
                      | fail
                    all_goals
                      have st5 := (STx.out.below Br).setS (p + k) ((p : Int) + (i : Int))
                      rw [hset.out] at st5
                      have yg5 := (YGx.out.below' Br).grown (grown_setCell (World.grownBy.refl _ (some f)) (p + k) (.int .i64 ((p : Int) + (i : Int)))) (by simp; omega)
                      have B5 := (BX.out.trans (Br.mono BX.out.size)).setCell (p := ⟨f, p + k, none⟩) ((STx.out.row.born _ rfl).1) (.int .i64 ((p : Int) + (i : Int)))
                      have REL : MiRel C b5 f bg n N cf k (some ⟨rb, 0, none⟩) cR 0 va vb w3 (.int .i64 ((i : Int) - 1)) _ := ⟨i, (i : Int) - 1, by omega, rfl, rfl, st5, yg5, B5⟩
                      have HREL := Lib.hid REL
                      clear REL st5 yg5 B5 t0 t1 t2 t3 t4 t5 s0 s1 s2' s3' s4 s5 u0 u1 u2 u3 u4 u5 b4 b5'
                      go_wp2_with fail
                      go_roundw
                      case rel => first | exact HREL.out | ((repeat apply Exists.intro); exact ⟨HREL.out, rfl⟩)
                      case measure => first | (simp [intOf]; done) | (simp [intOf]; omega)
          · have h0c := yh.cell (i := 0) rfl
            have g1c := yh.cell (i := 1) rfl
            have f1c := yh.free 1
            go_upto_region 10 with fail
            clear h0c hcy g1c f1c
            obtain ⟨wi, hwi⟩ : ∃ W, W = wh.setCell ⟨bg, 1, none⟩ (.int .i64 va) := ⟨_, rfl⟩
            have gqi : wh.grownBy wi (some bg) := by rw [hwi]; exact grown_setCell (World.grownBy.refl _ _) _ _
            have yi := yh.set 1 (.int .i64 va)
            rw [← hwi] at yi
            have sti := sth.later GO.out.1 GO.out.2.1 GO.out.2.2 gqi
            have Bi := Bh.grown gqi Bh.size (fun k hk => by simp at hk; omega)
            rw [← hwi]
            clear hwi gqi yh sth Bh
            obtain ⟨vb, hvb⟩ : ∃ vb, (mgV C n k ((C.ins.toNat + k : Nat) : Int)).getD jz 0 = vb := ⟨_, rfl⟩
            have hcz : wi.cell? ⟨f, jz, none⟩ = some (.int .i64 vb) := by rw [← hvb]; exact sti.row.cellR (by omega)
            have HVB : Hid (mgP C k jz = vb) := by show _ = _; rw [← hvb]; exact HVB0.out.symm
            clear hvb
            have h0c := yi.cell (i := 0) rfl
            have g2c := yi.cell (i := 2) rfl
            have f2c := yi.free 2
            clear HVB0
            go_upto_region 12 with fail
            clear h0c hcz g2c f2c
            obtain ⟨wj, hwj⟩ : ∃ W, W = wi.setCell ⟨bg, 2, none⟩ (.int .i64 vb) := ⟨_, rfl⟩
            have gqj : wi.grownBy wj (some bg) := by rw [hwj]; exact grown_setCell (World.grownBy.refl _ _) _ _
            have yj := yi.set 2 (.int .i64 vb)
            rw [← hwj] at yj
            have stj := sti.later GO.out.1 GO.out.2.1 GO.out.2.2 gqj
            have Bj := Bi.grown gqj Bi.size (fun k hk => by simp at hk; omega)
            rw [← hwj]
            clear hwj gqj yi sti Bi
            have HMV : Hid (mvG (mgP C k) (C.gs.getD k g0) = (1, va, vb)) := by
              show _ = _
              rw [HE.out]
              simp [mvG, HVA.out, HVB.out]
            have yjj : Blk wj bg #[.int .i64 1, .int .i64 va, .int .i64 vb] 69 := yj
            clear yj
            have sj : w3.heap.size ≤ wj.heap.size := Bj.size
            have HI0 : MiRel C b5 f bg n N cf k R cR 1 va vb w3 (.int .i64 ((k : Int) - 1)) wj := ⟨k, (k : Int) - 1, Nat.le_refl _, rfl, rfl, by rw [Nat.sub_self]; simpa [fdn] using stj, yjj, Bj⟩
            have HEND : Hid ((C.ins.toNat : Int) + (fdn (mgG C k) (1, va, vb) k (k - 0) : Int) = mgP C (k + 1) (C.ins.toNat + k)) := by
              show _ = _
              rw [Nat.sub_zero, fdn_all, mgP_last, HMV.out]
              congr 2
              exact eqTo_congr (fun j hj => (mgG_at C hj).symm)
            have HTWO : Hid ((1 : Int) = 2 → (vb : Int) = 0) := by
              have := mvG_two (pl := mgP C k) (g := C.gs.getD k g0)
              rw [HMV.out] at this
              exact this
            have HNX : Hid (mgG C k ++ [(1, va, vb)] = mgG C (k + 1)) := by show _ = _; rw [mgG_next, HMV.out]
            clear stj yjj Bj sj HMV HPT
            go_wp2_with fail
            go_loopw [8] (fun iv wr => MiRel C b5 f bg n N cf k R cR 1 va vb w3 iv wr) (fun iv _ => (intOf iv + 1).toNat)
            case atStart => exact HI0
            case round =>
              obtain ⟨j, t, hj, rfl, ht, st, yg, bq⟩ := hrel
              clear HI0
              by_cases hj0 : j = 0
              · subst hj0
                have ht0 : t < 0 := by omega
                clear ht
                rw [HEND.out, mgV_next] at st
                have ST := Lib.hid st
                have YG := Lib.hid yg
                have BQ := Lib.hid bq
                have sq := bq.size
                obtain ⟨o0, o1, o2, o3⟩ := st.blk.four
                have f2 := st.blk.free 2
                obtain ⟨c0, c1, c2⟩ := yg.three
                clear st yg bq
                go_wp2_with (at_builtin; refine appendGate wr rfl (.tmp 76) (.tmp 78) rfl 1 va vb w3.heap.size (.slice R k cR) k (mgG C k) rfl rfl ST.out.gates.2 (by omega) sq ?_; intro v8 w8 own8 b8 gr8; rw [ownBlockOf] at gr8; rw [HNX.out] at own8; obtain ⟨R8, c8, rfl, p8, st8⟩ := ST.out.putR own8 gr8; have B8 := Lib.hid ((BQ.out.trans b8).setCell (p := ⟨b5, 2, none⟩) ST.out.base (.slice R8 (k + 1) c8)); have ST8 := Lib.hid st8; have x8 := p8.cell (i := 2) rfl; have f8 := p8.free 2; clear st8 gr8 b8 own8)
                go_roundw
                case rel =>
                  have REL : MoRel C b5 (some ⟨f, 0, none⟩) n N cf w3 (.int .i64 ((k : Int) + 1)) _ := ⟨k + 1, R8, c8, by omega, by go_num, ST8.out, B8.out⟩
                  first | exact REL | ((repeat apply Exists.intro); exact ⟨REL, rfl⟩)
                case measure => simp [intOf]; omega
              · obtain ⟨i, rfl⟩ : ∃ i, j = i + 1 := ⟨j - 1, by omega⟩
                obtain rfl : t = (i : Int) := by omega
                have i0 : (0 : Int) ≤ (i : Int) := by omega
                have ik : (i : Int) < (k : Int) := by omega
                obtain ⟨rb, cap, hv, _, _⟩ := st.gates.2.form (by omega)
                obtain rfl : R = some ⟨rb, 0, none⟩ := by injection hv
                obtain ⟨gx, gy, gz, hgi⟩ : ∃ gx gy gz, (mgG C k).getD i g0 = (gx, gy, gz) := ⟨_, _, _, rfl⟩
                obtain ⟨b, hb⟩ : ∃ b, sameI (gx, gy, gz) (1, va, vb) = b := ⟨_, rfl⟩
                have hbG : sameG (gx, gy, gz) (1, va, vb) = b := by
                  rw [← hb]
                  refine (sameI_is ?_ (by first | exact HTWO.out | (intro _; rfl))).symm
                  have := mgG_two C k i (by omega)
                  rw [hgi] at this
                  exact this
                have HFD : Hid (fdn (mgG C k) (1, va, vb) k (k - i) = if b = true then i else fdn (mgG C k) (1, va, vb) k (k - (i + 1))) := by
                  show _ = _
                  rw [show k - i = (k - (i + 1)) + 1 by omega, fdn, show k - (k - (i + 1) + 1) = i by omega, hgi, hb]
                have D : Below wr.heap.size wr wr.drew := (Below.refl _ wr).drew
                have HSame := Lib.hid (siSame_any gx gy gz 1 va vb b wr.drew hbG)
                have STq := Lib.hid st
                have YGq := Lib.hid yg
                have BQq := Lib.hid bq
                have hK : Hid (∀ W', Below wr.heap.size wr W' → W'.cell? ⟨b5, 2, none⟩ = some (.slice (some ⟨rb, 0, none⟩) k cR) ∧ W'.cell? ⟨rb, i * 3, none⟩ = some (.int .i64 gx) ∧ W'.cell? ⟨rb, i * 3 + 1, none⟩ = some (.int .i64 gy) ∧ W'.cell? ⟨rb, i * 3 + 2, none⟩ = some (.int .i64 gz) ∧ W'.cell? ⟨bg, 0, none⟩ = some (.int .i64 1) ∧ W'.cell? ⟨bg, 1, none⟩ = some (.int .i64 va) ∧ W'.cell? ⟨bg, 2, none⟩ = some (.int .i64 vb)) := fun W' hb' => by
                  have o := STq.out.gates.below hb'
                  obtain ⟨g1, g2, g3⟩ := gvals_cell (mgG C k) i (by rw [o.1]; omega)
                  rw [hgi] at g1 g2 g3
                  obtain ⟨c0, c1, c2⟩ := (YGq.out.below' hb').three
                  exact ⟨(STq.out.blk.below' hb').cell (i := 2) rfl, (o.2.cellAt (i * 3) (by omega)).trans g1, (o.2.cellAt (i * 3 + 1) (by omega)).trans g2, (o.2.cellAt (i * 3 + 2) (by omega)).trans g3, c0, c1, c2⟩
                clear st yg bq hv hb hbG hgi ht
                go_upto_region 15 with fail
                go_cut [64] (fun v wx => v = .bool b ∧ Hid (Below wr.heap.size wr wx))
                case first =>
                  obtain ⟨u0, u1, u2, u3, u4, u5, u6⟩ := hK.out wr.drew D
                  go_wp2_with fail
                  first
                    | (go_region_law (first | (go_simp; go_at_call 61; refine Calls.mono HSame.out ?_; rintro e w4 ⟨rfl, b4⟩; have Bq := D.trans (b4.mono D.size); dsimp only)))
                    | fail
                  all_goals
                    go_wp2_with fail
                    go_meet
                    exact ⟨rfl, Lib.hid Bq⟩
                case rest =>
                  obtain ⟨rfl, BC⟩ := hcut
                  obtain ⟨wx, rfl⟩ : ∃ x, x = wc := ⟨_, rfl⟩
                  have stx := STq.out.below BC.out
                  have ygx := YGq.out.below' BC.out
                  have bx := BQq.out.trans (BC.out.mono BQq.out.size)
                  clear hK HSame STq YGq BQq D BC
                  cases b with
                  | false =>
                    have HFX : Hid (fdn (mgG C k) (1, va, vb) k (k - i) = fdn (mgG C k) (1, va, vb) k (k - (i + 1))) := by show _ = _; rw [HFD.out]; rfl
                    rw [← HFX.out] at stx
                    have REL : MiRel C b5 f bg n N cf k (some ⟨rb, 0, none⟩) cR 1 va vb w3 (.int .i64 ((i : Int) - 1)) wx := ⟨i, (i : Int) - 1, by omega, rfl, rfl, stx, ygx, bx⟩
                    have HREL := Lib.hid REL
                    clear REL stx ygx bx
                    go_wp2_with fail
                    go_roundw
                    case rel => first | exact HREL.out | ((repeat apply Exists.intro); exact ⟨HREL.out, rfl⟩)
                    case measure => first | (simp [intOf]; done) | (simp [intOf]; omega)
                  | true =>
                    have HFX : Hid (fdn (mgG C k) (1, va, vb) k (k - i) = i) := by show _ = _; rw [HFD.out]; rfl
                    have STx := Lib.hid stx
                    have YGx := Lib.hid ygx
                    have BX := Lib.hid bx
                    have D : Below wx.heap.size wx wx.drew := (Below.refl _ wx).drew
                    have hK : Hid (∀ W', Below wx.heap.size wx W' → W'.cell? ⟨w.heap.size, 0, none⟩ = some (.int .i64 C.in0) ∧ W'.cell? ⟨w.heap.size, 1, none⟩ = some (.int .i64 C.in1) ∧ W'.cell? ⟨w.heap.size, 2, none⟩ = some (.slice (some ad) n c) ∧ W'.cell? ⟨w.heap.size, 3, none⟩ = some (.slice O q d) ∧ (∃ z0, W'.cell? ⟨f, p + k, none⟩ = some (.int .i64 z0)) ∧ W'.frozen? ⟨f, p + k, none⟩ = false) := fun W' hb' => by
                      obtain ⟨x0, x1, x2, x3⟩ := (HP3.out.below' (BX.out.trans (hb'.mono BX.out.size))).four
                      have o := STx.out.row.below hb'
                      exact ⟨x0, x1, x2, x3, ⟨_, o.cellR (by omega)⟩, o.freeR _⟩
                    have HI2 : Hid (∀ W', Below wx.heap.size wx W' → Calls Try.prog 62 #[.agg #[.int .i64 C.in0, .int .i64 C.in1, (.slice (some ad) n c), .slice O q d]] W' fun e w' => e = .returned (.int .i64 (p : Int)) ∧ Below W'.heap.size W' w') := fun W' hb' => HI.out W' (BX.out.trans (hb'.mono BX.out.size))
                    have w1 : IntKind.i64.wrap ((p : Int) + (k : Int)) = (p : Int) + (k : Int) := wrapIn (by omega) (by omega)
                    have w2 : IntKind.i64.wrap ((p : Int) + (i : Int)) = (p : Int) + (i : Int) := wrapIn (by omega) (by omega)
                    have i1 : (0 : Int) ≤ (p : Int) + (k : Int) := by omega
                    have i2 : (p : Int) + (k : Int) < (N : Int) := by omega
                    have i3 : ((p : Int) + (k : Int)).toNat = p + k := by omega
                    obtain ⟨u0, u1, u2, u3, ⟨z0, u4⟩, u5⟩ := hK.out wx.drew D
                    clear stx ygx bx
                    have hset : Hid ((mgV C n k ((C.ins.toNat : Int) + (fdn (mgG C k) (1, va, vb) k (k - (i + 1)) : Int))).set (p + k) ((p : Int) + (i : Int)) = mgV C n k ((C.ins.toNat : Int) + (fdn (mgG C k) (1, va, vb) k (k - i) : Int))) := by
                      show _ = _
                      rw [HFX.out, ← HL0.out, mgV_set]
                    have hfg : f < bg := GO.out.1 _ rfl
                    go_upto_region 16 with fail
                    first
                      | (go_region_law (first
                        | (go_simp; go_at_call 62; refine Calls.mono (HI2.out w4 Bq) ?_; rintro e w5 ⟨rfl, b5'⟩; have Br := Bq.trans (b5'.mono Bq.size); obtain ⟨t0, t1, t2, t3, ⟨z2, t4⟩, t5⟩ := hK.out w5 Br; dsimp only)
                        | (go_simp; go_at_call 62; refine Calls.mono (HI2.out wx.drew D) ?_; rintro e w4 ⟨rfl, b4⟩; have Bq := D.trans (b4.mono D.size); obtain ⟨s0, s1, s2', s3', ⟨z1, s4⟩, s5⟩ := hK.out w4 Bq; dsimp only)))
                      | fail
                    all_goals
                      have st5 := (STx.out.below Br).setS (p + k) ((p : Int) + (i : Int))
                      rw [hset.out] at st5
                      have yg5 := (YGx.out.below' Br).grown (grown_setCell (World.grownBy.refl _ (some f)) (p + k) (.int .i64 ((p : Int) + (i : Int)))) (by simp; omega)
                      have B5 := (BX.out.trans (Br.mono BX.out.size)).setCell (p := ⟨f, p + k, none⟩) ((STx.out.row.born _ rfl).1) (.int .i64 ((p : Int) + (i : Int)))
                      have REL : MiRel C b5 f bg n N cf k (some ⟨rb, 0, none⟩) cR 1 va vb w3 (.int .i64 ((i : Int) - 1)) _ := ⟨i, (i : Int) - 1, by omega, rfl, rfl, st5, yg5, B5⟩
                      have HREL := Lib.hid REL
                      clear REL st5 yg5 B5 t0 t1 t2 t3 t4 t5 s0 s1 s2' s3' s4 s5 u0 u1 u2 u3 u4 u5 b4 b5'
                      go_wp2_with fail
                      go_roundw
                      case rel => first | exact HREL.out | ((repeat apply Exists.intro); exact ⟨HREL.out, rfl⟩)
                      case measure => first | (simp [intOf]; done) | (simp [intOf]; omega)
        · obtain ⟨jy, rfl⟩ : ∃ j : Nat, y = (j : Int) := ⟨y.toNat, by omega⟩
          obtain ⟨va, hva⟩ : ∃ va, (mgV C n k ((C.ins.toNat + k : Nat) : Int)).getD jy 0 = va := ⟨_, rfl⟩
          have hcy : wh.cell? ⟨f, jy, none⟩ = some (.int .i64 va) := by rw [← hva]; exact sth.row.cellR (by omega)
          have e0 : (0 : Int) ≤ (jy : Int) := by omega
          have e1 : (jy : Int) < (N : Int) := by omega
          have HVA : Hid (mgP C k jy = va) := by show _ = _; rw [← hva]; exact (HPT.out jy (by omega)).symm
          have h0c := yh.cell (i := 0) rfl
          have g1c := yh.cell (i := 1) rfl
          have f1c := yh.free 1
          clear hy hgate hva
          go_upto_region 10 with fail
          clear h0c hcy g1c f1c
          obtain ⟨wj, hwj⟩ : ∃ W, W = wh.setCell ⟨bg, 1, none⟩ (.int .i64 va) := ⟨_, rfl⟩
          have gqj : wh.grownBy wj (some bg) := by rw [hwj]; exact grown_setCell (World.grownBy.refl _ _) _ _
          have yj := yh.set 1 (.int .i64 va)
          rw [← hwj] at yj
          have stj := sth.later GO.out.1 GO.out.2.1 GO.out.2.2 gqj
          have Bj := Bh.grown gqj Bh.size (fun k hk => by simp at hk; omega)
          rw [← hwj]
          clear hwj gqj yh sth Bh
          have HMV : Hid (mvG (mgP C k) (C.gs.getD k g0) = (2, va, 0)) := by
            show _ = _
            rw [HE.out]
            simp [mvG, HVA.out]
          have yjj : Blk wj bg #[.int .i64 2, .int .i64 va, .int .i64 0] 69 := yj
          have h0c := yj.cell (i := 0) rfl
          clear yj
          go_upto_region 12 with fail
          clear h0c
          have sj : w3.heap.size ≤ wj.heap.size := Bj.size
          have HI0 : MiRel C b5 f bg n N cf k R cR 2 va 0 w3 (.int .i64 ((k : Int) - 1)) wj := ⟨k, (k : Int) - 1, Nat.le_refl _, rfl, rfl, by rw [Nat.sub_self]; simpa [fdn] using stj, yjj, Bj⟩
          have HEND : Hid ((C.ins.toNat : Int) + (fdn (mgG C k) (2, va, 0) k (k - 0) : Int) = mgP C (k + 1) (C.ins.toNat + k)) := by
            show _ = _
            rw [Nat.sub_zero, fdn_all, mgP_last, HMV.out]
            congr 2
            exact eqTo_congr (fun j hj => (mgG_at C hj).symm)
          have HTWO : Hid ((2 : Int) = 2 → (0 : Int) = 0) := by
            have := mvG_two (pl := mgP C k) (g := C.gs.getD k g0)
            rw [HMV.out] at this
            exact this
          have HNX : Hid (mgG C k ++ [(2, va, 0)] = mgG C (k + 1)) := by show _ = _; rw [mgG_next, HMV.out]
          clear stj yjj Bj sj HMV HPT
          go_wp2_with fail
          go_loopw [8] (fun iv wr => MiRel C b5 f bg n N cf k R cR 2 va 0 w3 iv wr) (fun iv _ => (intOf iv + 1).toNat)
          case atStart => exact HI0
          case round =>
            obtain ⟨j, t, hj, rfl, ht, st, yg, bq⟩ := hrel
            clear HI0
            by_cases hj0 : j = 0
            · subst hj0
              have ht0 : t < 0 := by omega
              clear ht
              rw [HEND.out, mgV_next] at st
              have ST := Lib.hid st
              have YG := Lib.hid yg
              have BQ := Lib.hid bq
              have sq := bq.size
              obtain ⟨o0, o1, o2, o3⟩ := st.blk.four
              have f2 := st.blk.free 2
              obtain ⟨c0, c1, c2⟩ := yg.three
              clear st yg bq
              go_wp2_with (at_builtin; refine appendGate wr rfl (.tmp 76) (.tmp 78) rfl 2 va 0 w3.heap.size (.slice R k cR) k (mgG C k) rfl rfl ST.out.gates.2 (by omega) sq ?_; intro v8 w8 own8 b8 gr8; rw [ownBlockOf] at gr8; rw [HNX.out] at own8; obtain ⟨R8, c8, rfl, p8, st8⟩ := ST.out.putR own8 gr8; have B8 := Lib.hid ((BQ.out.trans b8).setCell (p := ⟨b5, 2, none⟩) ST.out.base (.slice R8 (k + 1) c8)); have ST8 := Lib.hid st8; have x8 := p8.cell (i := 2) rfl; have f8 := p8.free 2; clear st8 gr8 b8 own8)
              go_roundw
              case rel =>
                have REL : MoRel C b5 (some ⟨f, 0, none⟩) n N cf w3 (.int .i64 ((k : Int) + 1)) _ := ⟨k + 1, R8, c8, by omega, by go_num, ST8.out, B8.out⟩
                first | exact REL | ((repeat apply Exists.intro); exact ⟨REL, rfl⟩)
              case measure => simp [intOf]; omega
            · obtain ⟨i, rfl⟩ : ∃ i, j = i + 1 := ⟨j - 1, by omega⟩
              obtain rfl : t = (i : Int) := by omega
              have i0 : (0 : Int) ≤ (i : Int) := by omega
              have ik : (i : Int) < (k : Int) := by omega
              obtain ⟨rb, cap, hv, _, _⟩ := st.gates.2.form (by omega)
              obtain rfl : R = some ⟨rb, 0, none⟩ := by injection hv
              obtain ⟨gx, gy, gz, hgi⟩ : ∃ gx gy gz, (mgG C k).getD i g0 = (gx, gy, gz) := ⟨_, _, _, rfl⟩
              obtain ⟨b, hb⟩ : ∃ b, sameI (gx, gy, gz) (2, va, 0) = b := ⟨_, rfl⟩
              have hbG : sameG (gx, gy, gz) (2, va, 0) = b := by
                rw [← hb]
                refine (sameI_is ?_ (by first | exact HTWO.out | (intro _; rfl))).symm
                have := mgG_two C k i (by omega)
                rw [hgi] at this
                exact this
              have HFD : Hid (fdn (mgG C k) (2, va, 0) k (k - i) = if b = true then i else fdn (mgG C k) (2, va, 0) k (k - (i + 1))) := by
                show _ = _
                rw [show k - i = (k - (i + 1)) + 1 by omega, fdn, show k - (k - (i + 1) + 1) = i by omega, hgi, hb]
              have D : Below wr.heap.size wr wr.drew := (Below.refl _ wr).drew
              have HSame := Lib.hid (siSame_any gx gy gz 2 va 0 b wr.drew hbG)
              have STq := Lib.hid st
              have YGq := Lib.hid yg
              have BQq := Lib.hid bq
              have hK : Hid (∀ W', Below wr.heap.size wr W' → W'.cell? ⟨b5, 2, none⟩ = some (.slice (some ⟨rb, 0, none⟩) k cR) ∧ W'.cell? ⟨rb, i * 3, none⟩ = some (.int .i64 gx) ∧ W'.cell? ⟨rb, i * 3 + 1, none⟩ = some (.int .i64 gy) ∧ W'.cell? ⟨rb, i * 3 + 2, none⟩ = some (.int .i64 gz) ∧ W'.cell? ⟨bg, 0, none⟩ = some (.int .i64 2) ∧ W'.cell? ⟨bg, 1, none⟩ = some (.int .i64 va) ∧ W'.cell? ⟨bg, 2, none⟩ = some (.int .i64 0)) := fun W' hb' => by
                have o := STq.out.gates.below hb'
                obtain ⟨g1, g2, g3⟩ := gvals_cell (mgG C k) i (by rw [o.1]; omega)
                rw [hgi] at g1 g2 g3
                obtain ⟨c0, c1, c2⟩ := (YGq.out.below' hb').three
                exact ⟨(STq.out.blk.below' hb').cell (i := 2) rfl, (o.2.cellAt (i * 3) (by omega)).trans g1, (o.2.cellAt (i * 3 + 1) (by omega)).trans g2, (o.2.cellAt (i * 3 + 2) (by omega)).trans g3, c0, c1, c2⟩
              clear st yg bq hv hb hbG hgi ht
              go_upto_region 15 with fail
              go_cut [64] (fun v wx => v = .bool b ∧ Hid (Below wr.heap.size wr wx))
              case first =>
                obtain ⟨u0, u1, u2, u3, u4, u5, u6⟩ := hK.out wr.drew D
                go_wp2_with fail
                first
                  | (go_region_law (first | (go_simp; go_at_call 61; refine Calls.mono HSame.out ?_; rintro e w4 ⟨rfl, b4⟩; have Bq := D.trans (b4.mono D.size); dsimp only)))
                  | fail
                all_goals
                  go_wp2_with fail
                  go_meet
                  exact ⟨rfl, Lib.hid Bq⟩
              case rest =>
                obtain ⟨rfl, BC⟩ := hcut
                obtain ⟨wx, rfl⟩ : ∃ x, x = wc := ⟨_, rfl⟩
                have stx := STq.out.below BC.out
                have ygx := YGq.out.below' BC.out
                have bx := BQq.out.trans (BC.out.mono BQq.out.size)
                clear hK HSame STq YGq BQq D BC
                cases b with
                | false =>
                  have HFX : Hid (fdn (mgG C k) (2, va, 0) k (k - i) = fdn (mgG C k) (2, va, 0) k (k - (i + 1))) := by show _ = _; rw [HFD.out]; rfl
                  rw [← HFX.out] at stx
                  have REL : MiRel C b5 f bg n N cf k (some ⟨rb, 0, none⟩) cR 2 va 0 w3 (.int .i64 ((i : Int) - 1)) wx := ⟨i, (i : Int) - 1, by omega, rfl, rfl, stx, ygx, bx⟩
                  have HREL := Lib.hid REL
                  clear REL stx ygx bx
                  go_wp2_with fail
                  go_roundw
                  case rel => first | exact HREL.out | ((repeat apply Exists.intro); exact ⟨HREL.out, rfl⟩)
                  case measure => first | (simp [intOf]; done) | (simp [intOf]; omega)
                | true =>
                  have HFX : Hid (fdn (mgG C k) (2, va, 0) k (k - i) = i) := by show _ = _; rw [HFD.out]; rfl
                  have STx := Lib.hid stx
                  have YGx := Lib.hid ygx
                  have BX := Lib.hid bx
                  have D : Below wx.heap.size wx wx.drew := (Below.refl _ wx).drew
                  have hK : Hid (∀ W', Below wx.heap.size wx W' → W'.cell? ⟨w.heap.size, 0, none⟩ = some (.int .i64 C.in0) ∧ W'.cell? ⟨w.heap.size, 1, none⟩ = some (.int .i64 C.in1) ∧ W'.cell? ⟨w.heap.size, 2, none⟩ = some (.slice (some ad) n c) ∧ W'.cell? ⟨w.heap.size, 3, none⟩ = some (.slice O q d) ∧ (∃ z0, W'.cell? ⟨f, p + k, none⟩ = some (.int .i64 z0)) ∧ W'.frozen? ⟨f, p + k, none⟩ = false) := fun W' hb' => by
                    obtain ⟨x0, x1, x2, x3⟩ := (HP3.out.below' (BX.out.trans (hb'.mono BX.out.size))).four
                    have o := STx.out.row.below hb'
                    exact ⟨x0, x1, x2, x3, ⟨_, o.cellR (by omega)⟩, o.freeR _⟩
                  have HI2 : Hid (∀ W', Below wx.heap.size wx W' → Calls Try.prog 62 #[.agg #[.int .i64 C.in0, .int .i64 C.in1, (.slice (some ad) n c), .slice O q d]] W' fun e w' => e = .returned (.int .i64 (p : Int)) ∧ Below W'.heap.size W' w') := fun W' hb' => HI.out W' (BX.out.trans (hb'.mono BX.out.size))
                  have w1 : IntKind.i64.wrap ((p : Int) + (k : Int)) = (p : Int) + (k : Int) := wrapIn (by omega) (by omega)
                  have w2 : IntKind.i64.wrap ((p : Int) + (i : Int)) = (p : Int) + (i : Int) := wrapIn (by omega) (by omega)
                  have i1 : (0 : Int) ≤ (p : Int) + (k : Int) := by omega
                  have i2 : (p : Int) + (k : Int) < (N : Int) := by omega
                  have i3 : ((p : Int) + (k : Int)).toNat = p + k := by omega
                  obtain ⟨u0, u1, u2, u3, ⟨z0, u4⟩, u5⟩ := hK.out wx.drew D
                  clear stx ygx bx
                  have hset : Hid ((mgV C n k ((C.ins.toNat : Int) + (fdn (mgG C k) (2, va, 0) k (k - (i + 1)) : Int))).set (p + k) ((p : Int) + (i : Int)) = mgV C n k ((C.ins.toNat : Int) + (fdn (mgG C k) (2, va, 0) k (k - i) : Int))) := by
                    show _ = _
                    rw [HFX.out, ← HL0.out, mgV_set]
                  have hfg : f < bg := GO.out.1 _ rfl
                  go_upto_region 16 with fail
                  first
                    | (go_region_law (first
                      | (go_simp; go_at_call 62; refine Calls.mono (HI2.out w4 Bq) ?_; rintro e w5 ⟨rfl, b5'⟩; have Br := Bq.trans (b5'.mono Bq.size); obtain ⟨t0, t1, t2, t3, ⟨z2, t4⟩, t5⟩ := hK.out w5 Br; dsimp only)
                      | (go_simp; go_at_call 62; refine Calls.mono (HI2.out wx.drew D) ?_; rintro e w4 ⟨rfl, b4⟩; have Bq := D.trans (b4.mono D.size); obtain ⟨s0, s1, s2', s3', ⟨z1, s4⟩, s5⟩ := hK.out w4 Bq; dsimp only)))
                    | fail
                  all_goals
                    have st5 := (STx.out.below Br).setS (p + k) ((p : Int) + (i : Int))
                    rw [hset.out] at st5
                    have yg5 := (YGx.out.below' Br).grown (grown_setCell (World.grownBy.refl _ (some f)) (p + k) (.int .i64 ((p : Int) + (i : Int)))) (by simp; omega)
                    have B5 := (BX.out.trans (Br.mono BX.out.size)).setCell (p := ⟨f, p + k, none⟩) ((STx.out.row.born _ rfl).1) (.int .i64 ((p : Int) + (i : Int)))
                    have REL : MiRel C b5 f bg n N cf k (some ⟨rb, 0, none⟩) cR 2 va 0 w3 (.int .i64 ((i : Int) - 1)) _ := ⟨i, (i : Int) - 1, by omega, rfl, rfl, st5, yg5, B5⟩
                    have HREL := Lib.hid REL
                    clear REL st5 yg5 B5 t0 t1 t2 t3 t4 t5 s0 s1 s2' s3' s4 s5 u0 u1 u2 u3 u4 u5 b4 b5'
                    go_wp2_with fail
                    go_roundw
                    case rel => first | exact HREL.out | ((repeat apply Exists.intro); exact ⟨HREL.out, rfl⟩)
                    case measure => first | (simp [intOf]; done) | (simp [intOf]; omega)
        · have h0c := yh.cell (i := 0) rfl
          obtain ⟨wj, hwj⟩ : ∃ W, W = wh := ⟨_, rfl⟩
          have stj := sth
          have Bj := Bh
          have yjj : Blk wh bg #[.int .i64 3, .int .i64 0, .int .i64 0] 69 := yh
          have HMV : Hid (mvG (mgP C k) (C.gs.getD k g0) = (3, 0, 0)) := by
            show _ = _
            rw [HE.out]
            simp [mvG]
          clear yh sth Bh hgate
          rw [← hwj] at stj Bj yjj h0c ⊢
          clear hwj
          go_upto_region 12 with fail
          clear h0c
          have sj : w3.heap.size ≤ wj.heap.size := Bj.size
          have HI0 : MiRel C b5 f bg n N cf k R cR 3 0 0 w3 (.int .i64 ((k : Int) - 1)) wj := ⟨k, (k : Int) - 1, Nat.le_refl _, rfl, rfl, by rw [Nat.sub_self]; simpa [fdn] using stj, yjj, Bj⟩
          have HEND : Hid ((C.ins.toNat : Int) + (fdn (mgG C k) (3, 0, 0) k (k - 0) : Int) = mgP C (k + 1) (C.ins.toNat + k)) := by
            show _ = _
            rw [Nat.sub_zero, fdn_all, mgP_last, HMV.out]
            congr 2
            exact eqTo_congr (fun j hj => (mgG_at C hj).symm)
          have HTWO : Hid ((3 : Int) = 2 → (0 : Int) = 0) := by
            have := mvG_two (pl := mgP C k) (g := C.gs.getD k g0)
            rw [HMV.out] at this
            exact this
          have HNX : Hid (mgG C k ++ [(3, 0, 0)] = mgG C (k + 1)) := by show _ = _; rw [mgG_next, HMV.out]
          clear stj yjj Bj sj HMV HPT
          go_wp2_with fail
          go_loopw [8] (fun iv wr => MiRel C b5 f bg n N cf k R cR 3 0 0 w3 iv wr) (fun iv _ => (intOf iv + 1).toNat)
          case atStart => exact HI0
          case round =>
            obtain ⟨j, t, hj, rfl, ht, st, yg, bq⟩ := hrel
            clear HI0
            by_cases hj0 : j = 0
            · subst hj0
              have ht0 : t < 0 := by omega
              clear ht
              rw [HEND.out, mgV_next] at st
              have ST := Lib.hid st
              have YG := Lib.hid yg
              have BQ := Lib.hid bq
              have sq := bq.size
              obtain ⟨o0, o1, o2, o3⟩ := st.blk.four
              have f2 := st.blk.free 2
              obtain ⟨c0, c1, c2⟩ := yg.three
              clear st yg bq
              go_wp2_with (at_builtin; refine appendGate wr rfl (.tmp 76) (.tmp 78) rfl 3 0 0 w3.heap.size (.slice R k cR) k (mgG C k) rfl rfl ST.out.gates.2 (by omega) sq ?_; intro v8 w8 own8 b8 gr8; rw [ownBlockOf] at gr8; rw [HNX.out] at own8; obtain ⟨R8, c8, rfl, p8, st8⟩ := ST.out.putR own8 gr8; have B8 := Lib.hid ((BQ.out.trans b8).setCell (p := ⟨b5, 2, none⟩) ST.out.base (.slice R8 (k + 1) c8)); have ST8 := Lib.hid st8; have x8 := p8.cell (i := 2) rfl; have f8 := p8.free 2; clear st8 gr8 b8 own8)
              go_roundw
              case rel =>
                have REL : MoRel C b5 (some ⟨f, 0, none⟩) n N cf w3 (.int .i64 ((k : Int) + 1)) _ := ⟨k + 1, R8, c8, by omega, by go_num, ST8.out, B8.out⟩
                first | exact REL | ((repeat apply Exists.intro); exact ⟨REL, rfl⟩)
              case measure => simp [intOf]; omega
            · obtain ⟨i, rfl⟩ : ∃ i, j = i + 1 := ⟨j - 1, by omega⟩
              obtain rfl : t = (i : Int) := by omega
              have i0 : (0 : Int) ≤ (i : Int) := by omega
              have ik : (i : Int) < (k : Int) := by omega
              obtain ⟨rb, cap, hv, _, _⟩ := st.gates.2.form (by omega)
              obtain rfl : R = some ⟨rb, 0, none⟩ := by injection hv
              obtain ⟨gx, gy, gz, hgi⟩ : ∃ gx gy gz, (mgG C k).getD i g0 = (gx, gy, gz) := ⟨_, _, _, rfl⟩
              obtain ⟨b, hb⟩ : ∃ b, sameI (gx, gy, gz) (3, 0, 0) = b := ⟨_, rfl⟩
              have hbG : sameG (gx, gy, gz) (3, 0, 0) = b := by
                rw [← hb]
                refine (sameI_is ?_ (by first | exact HTWO.out | (intro _; rfl))).symm
                have := mgG_two C k i (by omega)
                rw [hgi] at this
                exact this
              have HFD : Hid (fdn (mgG C k) (3, 0, 0) k (k - i) = if b = true then i else fdn (mgG C k) (3, 0, 0) k (k - (i + 1))) := by
                show _ = _
                rw [show k - i = (k - (i + 1)) + 1 by omega, fdn, show k - (k - (i + 1) + 1) = i by omega, hgi, hb]
              have D : Below wr.heap.size wr wr.drew := (Below.refl _ wr).drew
              have HSame := Lib.hid (siSame_any gx gy gz 3 0 0 b wr.drew hbG)
              have STq := Lib.hid st
              have YGq := Lib.hid yg
              have BQq := Lib.hid bq
              have hK : Hid (∀ W', Below wr.heap.size wr W' → W'.cell? ⟨b5, 2, none⟩ = some (.slice (some ⟨rb, 0, none⟩) k cR) ∧ W'.cell? ⟨rb, i * 3, none⟩ = some (.int .i64 gx) ∧ W'.cell? ⟨rb, i * 3 + 1, none⟩ = some (.int .i64 gy) ∧ W'.cell? ⟨rb, i * 3 + 2, none⟩ = some (.int .i64 gz) ∧ W'.cell? ⟨bg, 0, none⟩ = some (.int .i64 3) ∧ W'.cell? ⟨bg, 1, none⟩ = some (.int .i64 0) ∧ W'.cell? ⟨bg, 2, none⟩ = some (.int .i64 0)) := fun W' hb' => by
                have o := STq.out.gates.below hb'
                obtain ⟨g1, g2, g3⟩ := gvals_cell (mgG C k) i (by rw [o.1]; omega)
                rw [hgi] at g1 g2 g3
                obtain ⟨c0, c1, c2⟩ := (YGq.out.below' hb').three
                exact ⟨(STq.out.blk.below' hb').cell (i := 2) rfl, (o.2.cellAt (i * 3) (by omega)).trans g1, (o.2.cellAt (i * 3 + 1) (by omega)).trans g2, (o.2.cellAt (i * 3 + 2) (by omega)).trans g3, c0, c1, c2⟩
              clear st yg bq hv hb hbG hgi ht
              go_upto_region 15 with fail
              go_cut [64] (fun v wx => v = .bool b ∧ Hid (Below wr.heap.size wr wx))
              case first =>
                obtain ⟨u0, u1, u2, u3, u4, u5, u6⟩ := hK.out wr.drew D
                go_wp2_with fail
                first
                  | (go_region_law (first | (go_simp; go_at_call 61; refine Calls.mono HSame.out ?_; rintro e w4 ⟨rfl, b4⟩; have Bq := D.trans (b4.mono D.size); dsimp only)))
                  | fail
                all_goals
                  go_wp2_with fail
                  go_meet
                  exact ⟨rfl, Lib.hid Bq⟩
              case rest =>
                obtain ⟨rfl, BC⟩ := hcut
                obtain ⟨wx, rfl⟩ : ∃ x, x = wc := ⟨_, rfl⟩
                have stx := STq.out.below BC.out
                have ygx := YGq.out.below' BC.out
                have bx := BQq.out.trans (BC.out.mono BQq.out.size)
                clear hK HSame STq YGq BQq D BC
                cases b with
                | false =>
                  have HFX : Hid (fdn (mgG C k) (3, 0, 0) k (k - i) = fdn (mgG C k) (3, 0, 0) k (k - (i + 1))) := by show _ = _; rw [HFD.out]; rfl
                  rw [← HFX.out] at stx
                  have REL : MiRel C b5 f bg n N cf k (some ⟨rb, 0, none⟩) cR 3 0 0 w3 (.int .i64 ((i : Int) - 1)) wx := ⟨i, (i : Int) - 1, by omega, rfl, rfl, stx, ygx, bx⟩
                  have HREL := Lib.hid REL
                  clear REL stx ygx bx
                  go_wp2_with fail
                  go_roundw
                  case rel => first | exact HREL.out | ((repeat apply Exists.intro); exact ⟨HREL.out, rfl⟩)
                  case measure => first | (simp [intOf]; done) | (simp [intOf]; omega)
                | true =>
                  have HFX : Hid (fdn (mgG C k) (3, 0, 0) k (k - i) = i) := by show _ = _; rw [HFD.out]; rfl
                  have STx := Lib.hid stx
                  have YGx := Lib.hid ygx
                  have BX := Lib.hid bx
                  have D : Below wx.heap.size wx wx.drew := (Below.refl _ wx).drew
                  have hK : Hid (∀ W', Below wx.heap.size wx W' → W'.cell? ⟨w.heap.size, 0, none⟩ = some (.int .i64 C.in0) ∧ W'.cell? ⟨w.heap.size, 1, none⟩ = some (.int .i64 C.in1) ∧ W'.cell? ⟨w.heap.size, 2, none⟩ = some (.slice (some ad) n c) ∧ W'.cell? ⟨w.heap.size, 3, none⟩ = some (.slice O q d) ∧ (∃ z0, W'.cell? ⟨f, p + k, none⟩ = some (.int .i64 z0)) ∧ W'.frozen? ⟨f, p + k, none⟩ = false) := fun W' hb' => by
                    obtain ⟨x0, x1, x2, x3⟩ := (HP3.out.below' (BX.out.trans (hb'.mono BX.out.size))).four
                    have o := STx.out.row.below hb'
                    exact ⟨x0, x1, x2, x3, ⟨_, o.cellR (by omega)⟩, o.freeR _⟩
                  have HI2 : Hid (∀ W', Below wx.heap.size wx W' → Calls Try.prog 62 #[.agg #[.int .i64 C.in0, .int .i64 C.in1, (.slice (some ad) n c), .slice O q d]] W' fun e w' => e = .returned (.int .i64 (p : Int)) ∧ Below W'.heap.size W' w') := fun W' hb' => HI.out W' (BX.out.trans (hb'.mono BX.out.size))
                  have w1 : IntKind.i64.wrap ((p : Int) + (k : Int)) = (p : Int) + (k : Int) := wrapIn (by omega) (by omega)
                  have w2 : IntKind.i64.wrap ((p : Int) + (i : Int)) = (p : Int) + (i : Int) := wrapIn (by omega) (by omega)
                  have i1 : (0 : Int) ≤ (p : Int) + (k : Int) := by omega
                  have i2 : (p : Int) + (k : Int) < (N : Int) := by omega
                  have i3 : ((p : Int) + (k : Int)).toNat = p + k := by omega
                  obtain ⟨u0, u1, u2, u3, ⟨z0, u4⟩, u5⟩ := hK.out wx.drew D
                  clear stx ygx bx
                  have hset : Hid ((mgV C n k ((C.ins.toNat : Int) + (fdn (mgG C k) (3, 0, 0) k (k - (i + 1)) : Int))).set (p + k) ((p : Int) + (i : Int)) = mgV C n k ((C.ins.toNat : Int) + (fdn (mgG C k) (3, 0, 0) k (k - i) : Int))) := by
                    show _ = _
                    rw [HFX.out, ← HL0.out, mgV_set]
                  have hfg : f < bg := GO.out.1 _ rfl
                  go_upto_region 16 with fail
                  first
                    | (go_region_law (first
                      | (go_simp; go_at_call 62; refine Calls.mono (HI2.out w4 Bq) ?_; rintro e w5 ⟨rfl, b5'⟩; have Br := Bq.trans (b5'.mono Bq.size); obtain ⟨t0, t1, t2, t3, ⟨z2, t4⟩, t5⟩ := hK.out w5 Br; dsimp only)
                      | (go_simp; go_at_call 62; refine Calls.mono (HI2.out wx.drew D) ?_; rintro e w4 ⟨rfl, b4⟩; have Bq := D.trans (b4.mono D.size); obtain ⟨s0, s1, s2', s3', ⟨z1, s4⟩, s5⟩ := hK.out w4 Bq; dsimp only)))
                    | fail
                  all_goals
                    have st5 := (STx.out.below Br).setS (p + k) ((p : Int) + (i : Int))
                    rw [hset.out] at st5
                    have yg5 := (YGx.out.below' Br).grown (grown_setCell (World.grownBy.refl _ (some f)) (p + k) (.int .i64 ((p : Int) + (i : Int)))) (by simp; omega)
                    have B5 := (BX.out.trans (Br.mono BX.out.size)).setCell (p := ⟨f, p + k, none⟩) ((STx.out.row.born _ rfl).1) (.int .i64 ((p : Int) + (i : Int)))
                    have REL : MiRel C b5 f bg n N cf k (some ⟨rb, 0, none⟩) cR 3 0 0 w3 (.int .i64 ((i : Int) - 1)) _ := ⟨i, (i : Int) - 1, by omega, rfl, rfl, st5, yg5, B5⟩
                    have HREL := Lib.hid REL
                    clear REL st5 yg5 B5 t0 t1 t2 t3 t4 t5 s0 s1 s2' s3' s4 s5 u0 u1 u2 u3 u4 u5 b4 b5'
                    go_wp2_with fail
                    go_roundw
                    case rel => first | exact HREL.out | ((repeat apply Exists.intro); exact ⟨HREL.out, rfl⟩)
                    case measure => first | (simp [intOf]; done) | (simp [intOf]; omega)
      · obtain rfl : k = n := by omega
        have hpick : pickL (mgV C k k ((C.ins.toNat + k : Nat) : Int)) C.os = C.os.map fun z => mgP C k z.toNat := by
          unfold pickL
          refine List.map_congr_left fun z hz => mgV_at ?_ (Nat.le_refl _)
          obtain ⟨j, hj, rfl⟩ := List.getElem_of_mem hz
          have h1 := HGO.out.out j hj
          have e : C.os.getD j 0 = C.os[j] := by simp [List.getD, hj]
          rw [e] at h1
          have h3 := HP.out
          have h4 := HGL.out
          have h5 := HL0.out
          unfold Ci.wires at h1
          omega
        have HPK := Lib.hid hpick
        have BK := Lib.hid bk
        have sk : w3.heap.size ≤ wr.heap.size := bk.size
        obtain ⟨k0, k1, k2, k3⟩ := (HP3.out.below' bk).four
        have hin : ∀ j, j < C.os.length → 0 ≤ C.os.getD j 0 ∧ C.os.getD j 0 < (N : Int) := fun j hj => by
          have h1 := HGO.out.out j hj
          have h3 := HP.out
          have h4 := HGL.out
          have h5 := HNN.out
          unfold Ci.wires at h1
          omega
        have HPi := Lib.hid (ciPick_any F5 N cf (mgV C k k ((C.ins.toNat + k : Nat) : Int)) O q d C.os wr st.row.has (by omega) (HO3.out.below bk) (by omega) hin)
        rw [HPK.out] at HPi
        have ST := Lib.hid st
        clear hpick bk hin st
        go_wp2_with fail
        refine (HPi.out).mono ?_
        rintro e wp ⟨R9, c9, rfl, o9, b9⟩
        have st9 := ST.out.below b9
        have B9 := BK.out.trans (b9.mono sk)
        have r9 := HR3.out.below' B9
        have x9 := st9.blk.cell (i := 3) rfl
        have f9 := st9.blk.free 3
        obtain ⟨wq, hwq⟩ : ∃ W, W = wp.setCell ⟨b5, 3, none⟩ (.slice R9 q c9) := ⟨_, rfl⟩
        have gq : wp.grownBy wq (some b5) := by rw [hwq]; exact grown_setCell (World.grownBy.refl _ _) _ _
        have yq : Blk wq b5 #[.int .i64 C.in0, .int .i64 C.in1, .slice R k cR, .slice R9 q c9] 29 := by rw [hwq]; exact st9.blk.set 3 _
        have oGq := st9.gates.kept gq (fun a e e2 => st9.gates.notBlk st9.blk (by decide) (by rw [e]; simpa [blockOf] using e2.symm))
        have oIq := o9.kept gq (fun a e e2 => o9.notBlk st9.blk (by decide) (by rw [e]; simpa [blockOf] using e2.symm))
        have Bq := B9.grown gq B9.size (fun k hk => by simp at hk; omega)
        have rq := r9.grown gq (by simp; omega)
        have HDC : Hid (RC = ⟨C.in0, C.in1, mgG C k, C.os.map fun z => mgP C k z.toNat⟩) := by show _ = _; rw [← HD.out, mergeC, HGL.out]
        have on : OwnC wq w3.heap.size (.agg #[.int .i64 C.in0, .int .i64 C.in1, .slice R k cR, .slice R9 q c9]) RC := by
          rw [HDC.out]
          exact ⟨R, k, cR, R9, q, c9, rfl, oGq, oIq.mono sk⟩
        have Bw := HB3.out.trans (Bq.mono HB3.out.size)
        obtain ⟨c0, c1', c2', c3'⟩ := yq.four
        obtain ⟨d0, d1, d2, d3⟩ := rq.four
        have e0 := rq.free 0
        have e1 := rq.free 1
        have e2 := rq.free 2
        have e3 := rq.free 3
        obtain ⟨zn, h1, h2⟩ := fourSet (a := .int .i64 C.in0) (b := .int .i64 C.in1) (c := .slice R k cR) (d := .slice R9 q c9) on rq (show w.heap.size + 1 < w3.heap.size by omega) Bw (Nat.le_succ _)
        have HF := Lib.hid (And.intro zn (And.intro h1 h2))
        clear st9 r9 yq oGq oIq Bq rq on zn h1 h2 gq B9 o9 b9 k0 k1 k2 k3
        go_upto_region 20 with fail
        rw [← hwq]
        clear hwq x9 f9
        go_wp2_with fail
        obtain ⟨zn, h1, h2⟩ := HF.out
        obtain ⟨z0, z1, z2, z3⟩ := zn.four
        refine bodyPost_ret (v := .tuple #[.agg #[.int .i64 C.in0, .int .i64 C.in1, .slice R k cR, .slice R9 q c9], .bool true]) (by simp [results, Try.results16, go_sem, z0, z1, z2, z3]) rfl ⟨_, rfl, h1.has, HSZ.out.1, HSZ.out.2, h2⟩

end Go.Proofs.Yteiibneaihdmbaa
