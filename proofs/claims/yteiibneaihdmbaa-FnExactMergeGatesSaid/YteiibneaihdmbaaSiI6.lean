/- The program's circuit without dead gates: DropDead. For every circuit of at most 1048576 gates and outs. -/
import Derived.Test.YteiibneaihdmbaaSiW1
import Derived.Test.YteiibneaihdmbaaCirI11
import Derived.Test.YteiibneaihdmbaaCirU4
import Derived.Test.YteiibneaihdmbaaGdI4
namespace Go.Proofs.Yteiibneaihdmbaa
open Go.RowKit Go.Shelf
set_option maxRecDepth 100000

/-- An append of one number at a step of a region that draws; what it leaves. -/
theorem stepIntK {ops : Array Oper} {o : Oper} {a : Act} {K : Act → World → Prop} {Q : Exit → Act → World → Prop} {E : Prop} (W : World) (hgd : o.guard = none) (s x : Operand)
    (ho : o.op = .call { callee := .builtin .append, args := #[s, x], argTypes := #[23, 23] }) (z : Int) (B : Nat) (R : Option Addr) (n c : Nat) (ys : List Int) (q : Nat) (hs : a.eval s = .slice R n c)
    (hx : a.eval x = .slice (some ⟨q, 0, none⟩) 1 1) (hc : W.cell? ⟨q, 0, none⟩ = some (.int .i64 z)) (hown : Own W B R n c ys) (hn : n ≤ 16777216) (hB : B ≤ W.heap.size)
    (h : ∀ v' w', w'.ownsRow B 3 1 v' (n + 1) (vals (ys ++ [z])) → Below B W w' → W.grownBy w' (blockOf R) → K (a.put o.dst v') w') :
    if Region.wanted o (yielded ops a.tmps) = true then Oper.wp Try.prog o a W K Q else E := by
  obtain ⟨i0, hi, hz0, hz1, hz2⟩ := info_parts infoInt
  have hlt := hown.2.lt
  refine step_append_lies W hgd s x _ ho B 3 i0 (.int .i64 0) 1 8 Try.underlying23 hi hz0 hz1 hz2 rfl (by decide) (.slice R n c) n (vals ys) hs hown.2 ⟨q, 0, none⟩ 1 1 [.int .i64 z] hx (by simp) ?_ (by simp [Value.oneCell']) (by omega) (by simp only [maxLen]; omega) (by omega) hB _ rfl ?_
  · intro j u hj
    match j, hj with
    | 0, hj => simp at hj; subst hj; simpa [Addr.add] using hc
  · intro g cap w' h1 h2 _ _
    rw [ownBlockOf] at h2
    exact h _ w' (by rw [vals_append]; exact h1) ((Below.refl B W).grown h2 hB (fun k hk => by
      cases R with
      | none => simp [blockOf] at hk
      | some ad => simp [blockOf] at hk; have := (hlt ad.block rfl).1; omega)) h2

set_option maxHeartbeats 400000 in
theorem placeClosure_any (S : Option Addr) (l cS b i : Nat) (mv : List Int) (z : Int) (w : World) (h : Has w S l mv) (hi : i < l) (hb : w.cell? ⟨b, 0, none⟩ = some (.slice S l cS)) (hz : mv.getD i 0 = z) :
    Calls Try.prog 135 #[.int .i64 (i : Int), .pointer (some ⟨b, 0, none⟩)] w fun e w' => e = .returned (.int .i64 z) ∧ Below w.heap.size w w' := by
  obtain ⟨ad, y, rfl, hc, HY⟩ := h.elem hi
  obtain rfl : z = y := (HY.out.trans hz).symm
  have k0 : (0 : Int) ≤ (i : Int) := by omega
  have k1 : (i : Int) < (l : Int) := by omega
  clear hz
  go_enter Try.func135, Try.ntmps135
  go_wp2_with fail
  go_ret
  exact ⟨rfl, Below.refl _ _⟩

/-- The integer that a value is. -/
def valI : Value → Int
  | .int _ z => z
  | _ => 0

/-- What holds behind the first k gates. -/
def WdRel (C : Ci) (bP bK n p : Nat) (ov : Value) (w3 : World) (iv : Value) (wr : World) : Prop :=
  ∃ (k : Nat) (S : Option Addr) (l cS : Nat) (R : Option Addr) (m cR : Nat), k ≤ n ∧ iv = .int .i64 k ∧ l = p + k ∧ m = cntU C k ∧ DropSt wr w3.heap.size bK (.int .i64 C.in0) (.int .i64 C.in1) ov S l cS (placesTo C k) R m cR (keptTo C k) ∧ Blk wr bP #[.slice S l cS] 23 ∧ Below w3.heap.size w3 wr

set_option maxRecDepth 100000 in
set_option maxHeartbeats 2000000 in
theorem withoutDead_any (v : Value) (C : Ci) (w : World) (h : HasC w v C) (hG : Good C) :
    Calls Try.prog 83 #[v] w fun e w' => ∃ u, e = .returned u ∧ OwnC w' w.heap.size u (dropC C) ∧ Below w.heap.size w w' := by
  obtain ⟨G, n, c, O, q, d, rfl, hGs, hO, _, hqd, _, hOn⟩ := id h
  have HGO := Lib.hid hG
  have HGS := Lib.hid hGs
  have HOS := Lib.hid hO
  have HGL : Hid (C.gs.length = n) := hGs.1
  have HOL : Hid (C.os.length = q) := hO.1
  have n300 : n ≤ 300 := by have := hG.g; have := HGL.out; omega
  have q40 : q ≤ 40 := by have := hG.o; have := HOL.out; omega
  obtain ⟨a0, a1, a2, a3⟩ : 0 ≤ C.in0 ∧ C.in0 ≤ 20 ∧ 0 ≤ C.in1 ∧ C.in1 ≤ 20 := ⟨hG.a0, hG.a1, hG.b0, hG.b1⟩
  have hins : 0 ≤ C.ins ∧ C.ins ≤ 40 := by unfold Ci.ins; omega
  have HIN := Lib.hid hins
  obtain ⟨l0, hl0⟩ : ∃ p : Nat, C.ins.toNat = p := ⟨_, rfl⟩
  have hp : C.ins = (l0 : Int) := by omega
  have l40 : l0 ≤ 40 := by omega
  have HL0 := Lib.hid hl0
  have HP := Lib.hid hp
  have B1 := belowNew w (.cells #[.int .i64 C.in0, .int .i64 C.in1, .slice G n c, .slice O q d] 29)
  have p1 := Blk.new w #[.int .i64 C.in0, .int .i64 C.in1, .slice G n c, .slice O q d] 29
  obtain ⟨W1, hW1⟩ : ∃ W, W = w.alloc (.cells #[.int .i64 C.in0, .int .i64 C.in1, .slice G n c, .slice O q d] 29) := ⟨_, rfl⟩
  have s1 : W1.heap.size = w.heap.size + 1 := by rw [hW1]; simp
  rw [← hW1] at B1 p1
  have b2 := belowNew W1 (.cells #[.int .i64 0, .int .i64 0, .slice none 0 0, .slice none 0 0] 29)
  have r2 := Blk.newAt (k := w.heap.size + 1) W1 #[.int .i64 0, .int .i64 0, .slice none 0 0, .slice none 0 0] 29 s1.symm
  have p2 := p1.below' b2
  obtain ⟨W2, hW2⟩ : ∃ W, W = W1.alloc (.cells #[.int .i64 0, .int .i64 0, .slice none 0 0, .slice none 0 0] 29) := ⟨_, rfl⟩
  have s2 : W2.heap.size = w.heap.size + 1 + 1 := by rw [hW2]; simp [s1]
  rw [← hW2] at b2 r2 p2
  have B2 := B1.trans (b2.mono B1.size)
  have h2 := h.below B2
  have HU2 := Lib.hid (callsIn_wide.1 (usesOf_in _ C W2 h2 hG))
  obtain ⟨k0, k1, k2, k3⟩ := p2.four
  have sz2 : w.heap.size + 1 + 1 ≤ W2.heap.size := by omega
  clear h hG hl0 hp hins hO hGs B1 p1 b2 s1 s2
  go_enter Try.func83, Try.ntmps83
  go_upto_region 1 with fail
  rw [← hW1, ← hW2]
  clear hW1 hW2
  go_wp2_with fail
  refine (HU2.out).mono ?_
  rintro e w3 ⟨bM, qM, rfl, hbM, hqM, hM, b3⟩
  have p3 := p2.below' b3
  have r3 := r2.below' b3
  have B3 := B2.trans (b3.mono B2.size)
  have sz3 : w.heap.size + 1 + 1 ≤ w3.heap.size := Nat.le_trans sz2 b3.size
  have HC3 := Lib.hid (HGS.out.below B3)
  have HO3 := Lib.hid (HOS.out.below B3)
  have HP3 := Lib.hid p3
  have HR3 := Lib.hid r3
  have HM3 := Lib.hid hM
  have hMlt := hM.lt
  have HWf : Hid (Calls Try.prog 66 #[.int .i64 0, .int .i64 (C.in0 + C.in1)] w3 fun e w' => ∃ R, e = .returned (.slice R l0 l0) ∧ Own w' w3.heap.size R l0 l0 (placesTo C 0) ∧ Below w3.heap.size w3 w') := by
    show Calls _ _ _ _ _
    rw [show C.in0 + C.in1 = (l0 : Int) from HP.out, placesTo_zero HIN.out.1, HL0.out]; exact wiresFrom_any 0 l0 w3 (by omega) (by omega) (by omega)
  clear k0 k1 k2 k3 p2 r2 h2 b3 B2 HU2 sz2 hM
  obtain ⟨k0, k1, k2, k3⟩ := p3.four
  go_wp2_with fail
  refine (HWf.out).mono ?_
  rintro e w4 ⟨S4, rfl, o4, b4⟩
  have p4 := p3.below' b4
  obtain ⟨bP, hbP⟩ : ∃ b, w4.heap.size = b := ⟨_, rfl⟩
  have b5 := belowNew w4 (.cells #[.slice S4 l0 l0] 23)
  have y5 := Blk.newAt (k := bP) w4 #[.slice S4 l0 l0] 23 hbP.symm
  have p5 := p4.below' b5
  have o5 := o4.below b5
  obtain ⟨W5, hW5⟩ : ∃ W, W = w4.alloc (.cells #[.slice S4 l0 l0] 23) := ⟨_, rfl⟩
  have s5 : W5.heap.size = bP + 1 := by rw [hW5]; simp [hbP]
  rw [← hW5] at b5 y5 p5 o5
  have b6 := belowNew W5 (.cells #[.int .i64 C.in0, .int .i64 C.in1, .slice none 0 0, .slice O q d] 29)
  have z6 := Blk.newAt (k := bP + 1) W5 #[.int .i64 C.in0, .int .i64 C.in1, .slice none 0 0, .slice O q d] 29 s5.symm
  have y6 := y5.below' b6
  have o6 := o5.below b6
  have p6 := p5.below' b6
  obtain ⟨W6, hW6⟩ : ∃ W, W = W5.alloc (.cells #[.int .i64 C.in0, .int .i64 C.in1, .slice none 0 0, .slice O q d] 29) := ⟨_, rfl⟩
  rw [← hW6] at b6 z6 y6 o6 p6
  have hTP : w3.heap.size ≤ bP := by have := b4.size; omega
  have B6 := (b4.trans (b5.mono b4.size)).trans (b6.mono (Nat.le_trans b4.size b5.size))
  have HREL0 : WdRel C bP (bP + 1) n l0 (.slice O q d) w3 (.int .i64 0) W6 := ⟨0, S4, l0, l0, none, 0, 0, Nat.zero_le _, rfl, rfl, rfl, ⟨o6, z6, OwnG.nil_ _ _, by omega⟩, y6, B6⟩
  have k5 := p5.four
  have k6 := p6.four
  clear k0 k1 k2 k3 p3 r3 HWf o4 o5 y5 b5 p5 o6 z6 y6 b6 B6 p4
  go_upto_region 3 with fail
  rw [← hW5]
  clear hW5 hbP
  obtain ⟨k0, k1, k2, k3⟩ := k5
  go_upto_region 4 with fail
  rw [← hW6]
  clear hW6 s5 k0 k1 k2 k3
  obtain ⟨k0, k1, k2, k3⟩ := k6
  go_wp2_with fail
  clear k0 k1 k2 k3 p6
  go_loopw [27] (fun iv wr => WdRel C bP (bP + 1) n l0 (.slice O q d) w3 iv wr) (fun iv _ => n - (valI iv).toNat)
  case atStart => exact HREL0
  case round =>
    obtain ⟨k, S, l, cS, R, m, cR, hk, rfl, hl, hm, st, hbox, bk⟩ := hrel
    have l340 : l ≤ 340 := by omega
    have m300 : m ≤ 300 := by have := cntU_le C k; omega
    have HL := Lib.hid hl
    have HMC := Lib.hid hm
    clear hl hm
    by_cases hlt : k < n
    · obtain ⟨ad, x, y, z, hAd, hgx, hgy, hgz, HE⟩ := (HC3.out.below bk).elem hlt
      subst hAd
      obtain ⟨bg, hbg⟩ : ∃ b, wr.heap.size = b := ⟨_, rfl⟩
      have hold := st.old
      rw [hbg] at hold
      have hPg : bP < bg := by have := hbox.lt; omega
      have GO := Lib.hid hold
      have bA := belowNew wr (.cells #[.int .i64 x, .int .i64 y, .int .i64 z] 69)
      have yg := Blk.newAt (k := bg) wr #[.int .i64 x, .int .i64 y, .int .i64 z] 69 hbg.symm
      have stg := st.below bA
      have hboxg := hbox.below' bA
      have q0 : (0 : Int) ≤ (k : Int) := by omega
      have q1 : (k : Int) < (n : Int) := by omega
      obtain ⟨wg, hwg⟩ : ∃ W, W = wr.alloc (.cells #[.int .i64 x, .int .i64 y, .int .i64 z] 69) := ⟨_, rfl⟩
      rw [← hwg] at bA yg stg hboxg
      have Bg := bk.trans (bA.mono bk.size)
      have sg : w3.heap.size ≤ wg.heap.size := Bg.size
      have D : Below wg.heap.size wg wg.drew := (Below.refl _ wg).drew
      have STG := Lib.hid stg
      have HBX := Lib.hid hboxg
      have HBG := Lib.hid Bg
      have HYG := Lib.hid yg
      have hK : Hid (∀ W', Below wg.heap.size wg W' → W'.cell? ⟨bP, 0, none⟩ = some (.slice S l cS) ∧ W'.cell? ⟨bP + 1, 0, none⟩ = some (.int .i64 C.in0) ∧ W'.cell? ⟨bP + 1, 1, none⟩ = some (.int .i64 C.in1) ∧ W'.cell? ⟨bP + 1, 2, none⟩ = some (.slice R m cR) ∧ W'.cell? ⟨bP + 1, 3, none⟩ = some (.slice O q d)) := fun W' hb => by
        obtain ⟨a, b, c, d⟩ := (STG.out.blk.below' hb).four
        exact ⟨(HBX.out.below' hb).cell (i := 0) rfl, a, b, c, d⟩
      have HWi : Hid (∀ W', Below wg.heap.size wg W' → Calls Try.prog 121 #[.agg #[.int .i64 C.in0, .int .i64 C.in1, .slice R m cR, .slice O q d]] W' fun e w' => e = .returned (.int .i64 (C.ins + (cntU C k : Int))) ∧ Below W'.heap.size W' w') := fun W' hb => by
        have hh := wiresIn_any (.agg #[.int .i64 C.in0, .int .i64 C.in1, .slice R m cR, .slice O q d]) ⟨C.in0, C.in1, keptTo C k, C.os⟩ W' ⟨R, m, cR, O, q, d, rfl, (STG.out.gates.below hb).has, (HO3.out.below HBG.out).below hb, STG.out.gates.capLe, hqd, STG.out.gates.nilOk, hOn⟩ a0 (show C.in0 ≤ 1000 by omega) a2 (show C.in1 ≤ 1000 by omega) (by rw [keptTo_length]; have := cntU_le C k; omega)
        simpa only [Ci.wires, Ci.ins, keptTo_length] using hh
      obtain ⟨pz, hpz⟩ : ∃ z, C.ins + (cntU C k : Int) = z := ⟨_, rfl⟩
      have HPL : Hid (placesTo C k ++ [pz] = placesTo C (k + 1)) := by show _ = _; rw [placesTo_succ HIN.out.1, hpz]
      rw [hpz] at HWi
      clear st bk bA hold hbox stg hboxg yg Bg hpz
      go_upto_region 7 with fail
      rw [← hwg]
      clear hwg hgx hgy hgz
      obtain ⟨v0, v1, v2, v3, v4⟩ := hK.out wg.drew D
      first
        | (go_region_law (first
          | (refine stepIntK (w4.alloc (.cells #[.int .i64 pz] 3)) rfl (.tmp 32) (.tmp 35) rfl pz w3.heap.size S l cS (placesTo C k) w4.heap.size (by simp [Act.eval]) (by simp [Act.eval]) ((Blk.new w4 #[.int .i64 pz] 3).cell (i := 0) rfl) ((STG.out.row.below Bq).below (belowNew w4 (.cells #[.int .i64 pz] 3))) (by omega) (Nat.le_trans sg (Nat.le_trans Bq.size (belowNew w4 (.cells #[.int .i64 pz] 3)).size)) ?_; intro v5 w5 own5 b5 gr5; have hbA := Bq.trans ((belowNew w4 (.cells #[.int .i64 pz] 3)).mono Bq.size); have stA := STG.out.below hbA; have yA := HYG.out.below' hbA; have pA := HBX.out.below' hbA; rw [HPL.out] at own5; obtain ⟨S5, c5, rfl, st5⟩ := stA.putS own5 gr5; have p5 := pA.grown gr5 (stA.row.notBlk pA (by decide)); have y5 := yA.grown gr5 (notOld GO.out.1); have x5 := p5.cell (i := 0) rfl; have f5 := p5.free 0; have Bz := And.intro x5 st5.blk.four)
          | (go_simp; go_at_call 121; refine Calls.mono (HWi.out wg.drew D) ?_; rintro e w4 ⟨rfl, b4⟩; have Bq := D.trans (b4.mono D.size); obtain ⟨u0, u1, u2, u3, u4⟩ := hK.out w4 Bq; obtain ⟨t0, t1, t2, t3, t4⟩ := hK.out (w4.alloc (.cells #[.int .i64 pz] 3)) (Bq.trans ((belowNew w4 (.cells #[.int .i64 pz] 3)).mono Bq.size)); dsimp only)))
        | fail
      all_goals
        have B5 := (HBG.out.trans (hbA.mono sg)).trans b5
        obtain ⟨w6, hw6⟩ : ∃ W, W = w5.setCell ⟨bP, 0, none⟩ (.slice S5 (l + 1) c5) := ⟨_, rfl⟩
        have g6 : w5.grownBy w6 (some bP) := by rw [hw6]; exact grown_setCell (World.grownBy.refl _ _) _ _
        have p6 : Blk w6 bP #[.slice S5 (l + 1) c5] 23 := by rw [hw6]; exact p5.set 0 _
        have st6 := st5.beside p5 (by decide) (by decide) (by omega) g6
        have y6 := y5.grown g6 (by simp; omega)
        have B6 := B5.grown g6 B5.size (fun j hj => by simp at hj; omega)
        have s6 : w3.heap.size ≤ w6.heap.size := B6.size
        obtain ⟨k0, k1, k2, k3⟩ := (HP3.out.below' B6).four
        have HMk := Lib.hid (HM3.out.below B6 hMlt)
        obtain ⟨t, ht⟩ : ∃ t, (usesAt C C.gs.length).count (C.in0 + C.in1 + (k : Int)) = t := ⟨_, rfl⟩
        have HT := Lib.hid ht
        have hUT : usedG C k = true ↔ 0 < t := by
          rw [usedG, ← usesAt_all, ← List.count_pos_iff, ← ht]
          rfl
        have HUT := Lib.hid hUT
        have hy64 : I64 (C.in0 + C.in1 + (k : Int)) := ⟨by omega, by omega⟩
        have HY64 := Lib.hid hy64
        have ST6 := Lib.hid st6
        have P6 := Lib.hid p6
        have HB6 := Lib.hid B6
        obtain ⟨o0, o1, o2, o3⟩ := st6.blk.four
        have c0 := y6.cell (i := 0) rfl
        have c1' := y6.cell (i := 1) rfl
        have c2' := y6.cell (i := 2) rfl
        clear x5 f5 Bz st5 y5 p5 stA yA pA hbA own5 gr5 b5 B5 g6 p6 st6 y6 B6 ht hUT hy64 hK HWi b4 u0 u1 u2 u3 u4 t0 t1 t2 t3 t4 v0 v1 v2 v3 v4
        go_upto_region 8 with fail
        rw [← hw6]
        clear hw6
        by_cases ht0 : 0 < t
        · have ht1 : (0 : Int) < (t : Int) := by omega
          have HU : Hid (usedG C k = true) := HUT.out.2 ht0
          have HKT : Hid (keptTo C k ++ [(x, y, z)] = keptTo C (k + 1)) := by show _ = _; rw [keptTo, if_pos HU.out, HE.out]
          go_upto_region 9 with (at_lookup; refine MapL.wpLook rfl _ _ rfl rfl HMk.out (C.in0 + C.in1 + (k : Int)) rfl HY64.out ?_; rw [HT.out])
          clear k0 k1 k2 k3
          go_wp2_with (at_builtin; refine appendGate w6 rfl (.tmp 48) (.tmp 50) rfl x y z w3.heap.size (.slice R m cR) m (keptTo C k) rfl rfl ST6.out.gates.2 (by omega) s6 ?_; intro v8 w8 own8 b8 gr8; rw [ownBlockOf] at gr8; rw [HKT.out] at own8; have P8 := Lib.hid (P6.out.grown gr8 (ST6.out.gates.notBlk P6.out (by decide))); obtain ⟨R8, c8, rfl, p8, st8⟩ := ST6.out.putR own8 gr8; have B8 := Lib.hid ((HB6.out.trans b8).setCell (p := ⟨bP + 1, 2, none⟩) (show w3.heap.size ≤ bP + 1 by omega) (.slice R8 (m + 1) c8)); have x8 := p8.cell (i := 2) rfl; have f8 := p8.free 2)
          go_roundw
          case rel =>
            have REL : WdRel C bP (bP + 1) n l0 (.slice O q d) w3 (.int .i64 ((k : Int) + 1)) _ := ⟨k + 1, S5, l + 1, c5, R8, m + 1, c8, by omega, by go_num, by have := HL.out; omega, by rw [cntU, if_pos HU.out, ← HMC.out], st8, P8.out.other (by omega) _ _, B8.out⟩
            first | exact REL | ((repeat apply Exists.intro); exact ⟨REL, rfl⟩)
          case measure => simp [valI]; omega
        · have ht1 : ¬ (0 : Int) < (t : Int) := by omega
          have HU : Hid (¬ usedG C k = true) := fun h => ht0 (HUT.out.1 h)
          have HKT : Hid (keptTo C k = keptTo C (k + 1)) := by show _ = _; rw [keptTo, if_neg HU.out]
          have st8 := ST6.out
          rw [HKT.out] at st8
          have ST8 := Lib.hid st8
          clear st8
          go_wp2_with (at_lookup; refine MapL.wpLook rfl _ _ rfl rfl HMk.out (C.in0 + C.in1 + (k : Int)) rfl HY64.out ?_; rw [HT.out])
          go_roundw
          case rel =>
            have REL : WdRel C bP (bP + 1) n l0 (.slice O q d) w3 (.int .i64 ((k : Int) + 1)) w6 := ⟨k + 1, S5, l + 1, c5, R, m, cR, by omega, by go_num, by have := HL.out; omega, by rw [cntU, if_neg HU.out]; exact HMC.out, ST8.out, P6.out, HB6.out⟩
            first | exact REL | ((repeat apply Exists.intro); exact ⟨REL, rfl⟩)
          case measure => simp [valI]; omega
    · obtain rfl : k = n := by omega
      have hlI : (l : Int) = C.ins + (C.gs.length : Int) := by have := HL.out; have := HP.out; have := HGL.out; omega
      have hgs : ∀ j, j < (keptTo C k).length → gateOk (l : Int) ((keptTo C k).getD j g0) = true := fun j hj => by rw [hlI]; exact keptTo_ok HGO.out k (by rw [HGL.out]; exact Nat.le_refl _) j hj
      have hos : ∀ j, j < C.os.length → 0 ≤ C.os.getD j 0 ∧ C.os.getD j 0 < (l : Int) := fun j hj => by
        have h1 := HGO.out.out j hj
        rw [hlI]
        unfold Ci.wires at h1
        unfold Ci.ins
        omega
      have hPA : PlaceAt 135 #[.pointer (some ⟨bP, 0, none⟩)] (plD C) l wr := fun W j hj hb =>
        placeClosure_any S l cS bP j (placesTo C k) (plD C j) W (st.row.has.below hb) hj ((hbox.below' hb).cell (i := 0) rfl) (placesTo_at (by have := HL.out; have := HL0.out; omega))
      have HMv := Lib.hid (movedCircuit_any 135 #[.pointer (some ⟨bP, 0, none⟩)] (enters_of Try.func135 (by kernel_rfl) rfl) (plD C) l (.agg #[.int .i64 C.in0, .int .i64 C.in1, .slice R m cR, .slice O q d]) ⟨C.in0, C.in1, keptTo C k, C.os⟩ wr ⟨R, m, cR, O, q, d, rfl, st.gates.has, HO3.out.below bk, st.gates.capLe, hqd, st.gates.nilOk, hOn⟩ hPA (by rw [keptTo_length]; have := cntU_le C k; omega) (show C.os.length ≤ 1048576 by have := HOL.out; omega) hgs hos)
      have HDC : Hid (dropC C = ⟨C.in0, C.in1, (keptTo C k).map (mvG (plD C)), C.os.map fun z => plD C z.toNat⟩) := by show _ = _; rw [dropC, HGL.out]
      have sk : w3.heap.size ≤ wr.heap.size := bk.size
      obtain ⟨o0, o1, o2, o3⟩ := st.blk.four
      have BK := Lib.hid bk
      clear hlI hgs hos hPA st hbox bk
      go_wp2_with fail
      refine (HMv.out).mono ?_
      rintro e w9 ⟨u, rfl, on, b9⟩
      obtain ⟨Gx, nx, cx, Ox, mx, dx, rfl, oGx, oOx⟩ := on
      have B9 := BK.out.trans (b9.mono sk)
      have r9 := HR3.out.below' B9
      have p9 := HP3.out.below' B9
      obtain ⟨bV, hbV⟩ : ∃ b, w9.heap.size = b := ⟨_, rfl⟩
      have b10 := belowNew w9 (.cells #[.int .i64 0, .int .i64 0, .slice Gx nx cx, .slice Ox mx dx] 29)
      have y10 := Blk.newAt (k := bV) w9 #[.int .i64 0, .int .i64 0, .slice Gx nx cx, .slice Ox mx dx] 29 hbV.symm
      have r10 := r9.below' b10
      have p10 := p9.below' b10
      have oG10 := oGx.below b10
      have oO10 := oOx.below b10
      obtain ⟨W10, hW10⟩ : ∃ W, W = w9.alloc (.cells #[.int .i64 0, .int .i64 0, .slice Gx nx cx, .slice Ox mx dx] 29) := ⟨_, rfl⟩
      rw [← hW10] at b10 y10 r10 p10 oG10 oO10
      have B10 := B9.trans (b10.mono B9.size)
      have Bw := B3.trans (B10.mono B3.size)
      have on : OwnC W10 wr.heap.size (.agg #[.int .i64 C.in0, .int .i64 C.in1, .slice Gx nx cx, .slice Ox mx dx]) (dropC C) := by
        rw [HDC.out]
        exact ⟨Gx, nx, cx, Ox, mx, dx, rfl, oG10, oO10⟩
      obtain ⟨zn, h1, h2⟩ := fourSet (a := .int .i64 C.in0) (b := .int .i64 C.in1) (c := .slice Gx nx cx) (d := .slice Ox mx dx) on r10 (show w.heap.size + 1 < wr.heap.size by omega) Bw (Nat.le_succ _)
      have HF := Lib.hid (And.intro zn (And.intro h1 h2))
      obtain ⟨k0, k1, k2, k3⟩ := p10.four
      obtain ⟨c0, c1', c2', c3'⟩ := y10.four
      obtain ⟨d0, d1, d2, d3⟩ := r10.four
      have e0 := r10.free 0
      have e1 := r10.free 1
      have e2 := r10.free 2
      have e3 := r10.free 3
      clear HMv o0 o1 o2 o3 b9 oGx oOx r9 p9 b10 y10 r10 p10 oG10 oO10 B10 Bw on zn h1 h2 B9
      go_upto_region 12 with fail
      rw [← hW10]
      clear hW10
      go_wp2_with fail
      obtain ⟨zn, h1, h2⟩ := HF.out
      obtain ⟨z0, z1, z2, z3⟩ := zn.four
      refine bodyPost_ret (v := .agg #[.int .i64 C.in0, .int .i64 C.in1, .slice Gx nx cx, .slice Ox mx dx]) (by simp [results, Try.results83, go_sem, z0, z1, z2, z3]) rfl ⟨_, rfl, h1.mono (by omega), h2⟩

end Go.Proofs.Yteiibneaihdmbaa
