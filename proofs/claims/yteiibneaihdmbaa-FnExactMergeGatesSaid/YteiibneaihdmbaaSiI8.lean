/- The program's MergeGates. For every circuit of at most 1048576 gates and outs. -/
import Derived.Test.YteiibneaihdmbaaSiEA
import Derived.Test.YteiibneaihdmbaaSiI6
import Derived.Test.YteiibneaihdmbaaSiC1
import Derived.Deep.DeepCutAuto
import Derived.Laws.EntriesVeiled
namespace Go.Proofs.Yteiibneaihdmbaa
open Go.RowKit Go.Shelf
set_option maxRecDepth 100000

set_option maxHeartbeats 400000 in
theorem firstClosure_any (S : Option Addr) (l cS b i : Nat) (mv : List Int) (z : Int) (w : World) (h : Has w S l mv) (hi : i < l) (hb : w.cell? ⟨b, 0, none⟩ = some (.slice S l cS)) (hz : mv.getD i 0 = z) :
    Calls Try.prog 67 #[.int .i64 (i : Int), .pointer (some ⟨b, 0, none⟩)] w fun e w' => e = .returned (.int .i64 z) ∧ Below w.heap.size w w' := by
  obtain ⟨ad, y, rfl, hc, HY⟩ := h.elem hi
  obtain rfl : z = y := (HY.out.trans hz).symm
  have k0 : (0 : Int) ≤ (i : Int) := by omega
  have k1 : (i : Int) < (l : Int) := by omega
  clear hz
  go_enter Try.func67, Try.ntmps67
  go_wp2_with fail
  go_ret
  exact ⟨rfl, Below.refl _ _⟩

set_option maxHeartbeats 400000 in
theorem outClosure_any (S : Option Addr) (l cS b b' i : Nat) (k : Int) (mv : List Int) (z : Int) (w : World) (h : Has w S l mv) (hi : i < l) (hb : w.cell? ⟨b, 0, none⟩ = some (.slice S l cS)) (hb' : w.cell? ⟨b', 0, none⟩ = some (.func (.func 67) #[] #[.pointer (some ⟨b, 0, none⟩)])) (hz : mv.getD i 0 = z) :
    Calls Try.prog 71 #[.int .i64 k, .int .i64 (i : Int), .pointer (some ⟨b', 0, none⟩)] w fun e w' => e = .returned (.int .i64 z) ∧ Below w.heap.size w w' := by
  have HC := Lib.hid (firstClosure_any S l cS b i mv z w h hi hb hz)
  have eg := enters_of Try.func67 (by kernel_rfl) rfl
  clear hz hb h
  go_enter Try.func71, Try.ntmps71
  go_wp2_with fail
  refine (HC.out).mono ?_
  rintro e w2 ⟨rfl, b2⟩
  go_wp2_with fail
  go_ret
  exact ⟨rfl, b2⟩

/-- What holds behind the first k gates. -/
def MgRel (C : Ci) (b5 b6 r n p : Nat) (w3 : World) (iv : Value) (wr : World) : Prop :=
  ∃ (k : Nat) (S : Option Addr) (l cS : Nat), k ≤ n ∧ iv = .int .i64 k ∧ l = p + k ∧ Own wr w3.heap.size S l cS (mgL C k) ∧ Blk wr b5 #[.slice S l cS] 23 ∧ OwnG wr w3.heap.size (some ⟨r, 0, none⟩) n n (padG (mgG C k) n) ∧ Blk wr b6 #[.func (.func 67) #[] #[.pointer (some ⟨b5, 0, none⟩)]] 73 ∧ Below w3.heap.size w3 wr

set_option maxRecDepth 100000 in
set_option maxHeartbeats 2000000 in
theorem impl_MergeGates (v : Value) (C : Ci) (RC : Ci) (rb : Bool) (w : World) (h : HasC w v C) (hf : Fit C) (hm : m_MergeGates C = (RC, rb)) :
    Calls Try.prog 18 #[v] w fun e w' => ∃ u, e = .returned (.tuple #[u, .bool rb]) ∧ OwnC w' w.heap.size u RC ∧ RC.gs.length ≤ 1048576 ∧ RC.os.length ≤ 1048576 ∧ Below w.heap.size w w' := by
  obtain ⟨G, n, c, O, q, d, rfl, hGs, hO, _, hqd, _, hOn⟩ := id h
  have HM := Lib.hid hm
  have HGS := Lib.hid hGs
  have HOS := Lib.hid hO
  have HGL : Hid (C.gs.length = n) := hGs.1
  have HOL : Hid (C.os.length = q) := hO.1
  have b1 := belowNew w (.cells #[.int .i64 C.in0, .int .i64 C.in1, .slice G n c, .slice O q d] 29)
  have p1 := Blk.new w #[.int .i64 C.in0, .int .i64 C.in1, .slice G n c, .slice O q d] 29
  obtain ⟨W1, hW1⟩ : ∃ W, W = w.alloc (.cells #[.int .i64 C.in0, .int .i64 C.in1, .slice G n c, .slice O q d] 29) := ⟨_, rfl⟩
  have s1 : W1.heap.size = w.heap.size + 1 := by rw [hW1]; simp
  rw [← hW1] at b1 p1
  have b2 := belowNew W1 (.cells #[.int .i64 0, .int .i64 0, .slice none 0 0, .slice none 0 0] 29)
  have r2 := Blk.newAt (k := w.heap.size + 1) W1 #[.int .i64 0, .int .i64 0, .slice none 0 0, .slice none 0 0] 29 s1.symm
  have p2 := p1.below' b2
  obtain ⟨W2, hW2⟩ : ∃ W, W = W1.alloc (.cells #[.int .i64 0, .int .i64 0, .slice none 0 0, .slice none 0 0] 29) := ⟨_, rfl⟩
  have s2 : w.heap.size + 2 ≤ W2.heap.size := by rw [hW2]; simp [s1]
  rw [← hW2] at b2 r2 p2
  have B2 := b1.trans (b2.mono b1.size)
  have h2 := h.below B2
  have HG := Lib.hid (isCircuit_any _ C (gd C) W2 h2 (fitLen hf) rfl)
  obtain ⟨k0, k1, k2, k3⟩ := p2.four
  clear h hm b1 p1 b2 s1 hGs hO
  cases eg : gd C with
  | false =>
    have e := HM.out
    rw [m_MergeGates, eg] at e
    obtain ⟨rfl, rfl⟩ := Prod.mk.inj e
    clear e
    go_enter Try.func18, Try.ntmps18
    go_wp2_with fail
    rw [← hW1, ← hW2]
    refine (HG.out).mono ?_
    rintro e w3 ⟨rfl, b3⟩
    rw [eg]
    clear hW1 hW2
    have r3 := r2.below' b3
    have B3 := B2.trans (b3.mono B2.size)
    obtain ⟨c0, c1, c2, c3⟩ := r3.four
    have f0 := r3.free 0
    have f1 := r3.free 1
    have f2 := r3.free 2
    have f3 := r3.free 3
    clear r2 b3
    go_wp2_with fail
    have r4 := (((r3.set 0 (.int .i64 0)).set 1 (.int .i64 0)).set 2 (.slice none 0 0)).set 3 (.slice none 0 0)
    obtain ⟨e0, e1, e2, e3⟩ := (show Blk _ (w.heap.size + 1) #[.int .i64 0, .int .i64 0, .slice none 0 0, .slice none 0 0] 29 from r4).four
    refine bodyPost_ret (v := .tuple #[.agg #[.int .i64 0, .int .i64 0, .slice none 0 0, .slice none 0 0], .bool false]) (by simp [results, Try.results18, go_sem, e0, e1, e2, e3]) rfl ⟨_, rfl, zeroOwnC _ _, by simp, by simp, ?_⟩
    exact (((B3.setCell (by show w.heap.size ≤ w.heap.size + 1; omega) _).setCell (by show w.heap.size ≤ w.heap.size + 1; omega) _).setCell (by show w.heap.size ≤ w.heap.size + 1; omega) _).setCell (by show w.heap.size ≤ w.heap.size + 1; omega) _
  | true =>
    have e := HM.out
    rw [m_MergeGates, if_pos eg] at e
    obtain ⟨e1, rfl⟩ := Prod.mk.inj e
    have HD : Hid (mergeC C = RC) := e1
    have hGood := gd_yes eg
    have HGO := Lib.hid hGood
    have n300 : n ≤ 300 := by have := hGood.g; have := HGL.out; omega
    have q40 : q ≤ 40 := by have := hGood.o; have := HOL.out; omega
    obtain ⟨a0, a1, a2, a3⟩ : 0 ≤ C.in0 ∧ C.in0 ≤ 20 ∧ 0 ≤ C.in1 ∧ C.in1 ≤ 20 := ⟨hGood.a0, hGood.a1, hGood.b0, hGood.b1⟩
    have hsz : RC.gs.length ≤ 1048576 ∧ RC.os.length ≤ 1048576 := by
      rw [← e1, mergeC]
      simp only [List.length_map, mgG_length]
      have := HGL.out
      have := HOL.out
      omega
    have HSZ := Lib.hid hsz
    obtain ⟨p, hl0⟩ : ∃ p : Nat, C.ins.toNat = p := ⟨_, rfl⟩
    have hp : C.in0 + C.in1 = (p : Int) := by unfold Ci.ins at hl0; omega
    have p40 : p ≤ 40 := by omega
    have HL0 := Lib.hid hl0
    have HP := Lib.hid hp
    clear e e1 hGood hsz hl0 hp
    go_enter Try.func18, Try.ntmps18
    go_wp2_with fail
    rw [← hW1, ← hW2]
    refine (HG.out).mono ?_
    rintro e w3 ⟨rfl, b3⟩
    rw [eg]
    clear hW1 hW2
    have r3 := r2.below' b3
    have p3 := p2.below' b3
    have B3 := B2.trans (b3.mono B2.size)
    have s3 : w.heap.size + 2 ≤ w3.heap.size := Nat.le_trans s2 b3.size
    have HC3 := Lib.hid (HGS.out.below B3)
    have HO3 := Lib.hid (HOS.out.below B3)
    have HP3 := Lib.hid p3
    have HR3 := Lib.hid r3
    have HB3 := Lib.hid B3
    have HWf : Hid (Calls Try.prog 66 #[.int .i64 0, .int .i64 (C.in0 + C.in1)] w3 fun e w' => ∃ R, e = .returned (.slice R p p) ∧ Own w' w3.heap.size R p p (mgL C 0) ∧ Below w3.heap.size w3 w') := by
      show Calls _ _ _ _ _
      rw [HP.out, mgL_zero, HL0.out]; exact wiresFrom_any 0 p w3 (by omega) (by omega) (by omega)
    clear r2 b3 k0 k1 k2 k3 p2 h2 HG r3 B3
    obtain ⟨k0, k1, k2, k3⟩ := p3.four
    go_wp2_with fail
    refine (HWf.out).mono ?_
    rintro e w4 ⟨S4, rfl, o4, b4⟩
    have p4 := p3.below' b4
    obtain ⟨b5, hb5⟩ : ∃ b, w4.heap.size = b := ⟨_, rfl⟩
    have bb5 := belowNew w4 (.cells #[.slice S4 p p] 23)
    have y5 := Blk.newAt (k := b5) w4 #[.slice S4 p p] 23 hb5.symm
    have p5 := p4.below' bb5
    have o5 := o4.below bb5
    obtain ⟨W5, hW5⟩ : ∃ W, W = w4.alloc (.cells #[.slice S4 p p] 23) := ⟨_, rfl⟩
    have s5 : W5.heap.size = b5 + 1 := by rw [hW5]; simp [hb5]
    rw [← hW5] at bb5 y5 p5 o5
    have bb6 := belowNew W5 (.cells #[.func (.func 67) #[] #[.pointer (some ⟨b5, 0, none⟩)]] 73)
    have z6 := Blk.newAt (k := b5 + 1) W5 #[.func (.func 67) #[] #[.pointer (some ⟨b5, 0, none⟩)]] 73 s5.symm
    have y6 := y5.below' bb6
    have o6 := o5.below bb6
    have p6 := p5.below' bb6
    obtain ⟨W6, hW6⟩ : ∃ W, W = W5.alloc (.cells #[.func (.func 67) #[] #[.pointer (some ⟨b5, 0, none⟩)]] 73) := ⟨_, rfl⟩
    rw [← hW6] at bb6 z6 y6 o6 p6
    have hT5 : w3.heap.size ≤ b5 := by have := b4.size; omega
    have B6 := (b4.trans (bb5.mono b4.size)).trans (bb6.mono (Nat.le_trans b4.size bb5.size))
    obtain ⟨j0, j1, j2, j3⟩ := p6.four
    clear k0 k1 k2 k3 p3 HWf o4 o5 y5 bb5 p5 bb6 p4 b4
    go_upto_region 5 with fail
    rw [← hW5]
    clear hW5
    go_upto_region 6 with fail
    rw [← hW6]
    clear hW6 hb5 s5
    have HY6 := Lib.hid y6
    have HZ6 := Lib.hid z6
    have HO6 := Lib.hid o6
    have HPx := Lib.hid p6
    have HB6 := Lib.hid B6
    clear y6 z6 o6 p6 B6
    go_wp2_with (at_make; refine makeGates _ rfl _ rfl n rfl (by omega) ?_; intro w7 hrow b7; obtain ⟨j0, j1, j2, j3⟩ := (HPx.out.below' b7).four)
    obtain ⟨r, hr⟩ : ∃ r, W6.heap.size = r := ⟨_, rfl⟩
    have hrow' : OwnG w7 r (some ⟨r, 0, none⟩) n n (List.replicate n g0) := by rw [← hr]; exact hrow
    have h6r : w3.heap.size ≤ r := by rw [← hr]; exact HB6.out.size
    have h5r : b5 + 1 < r := by rw [← hr]; exact HZ6.out.lt
    have BT := HB6.out.trans (b7.mono HB6.out.size)
    have HREL0 : MgRel C b5 (b5 + 1) r n p w3 (.int .i64 0) w7 := ⟨0, S4, p, p, Nat.zero_le _, rfl, rfl, HO6.out.below b7, HY6.out.below' b7, by have := hrow'.mono h6r; simpa [padG, mgG] using this, HZ6.out.below' b7, BT⟩
    rw [hr]
    clear hrow hrow' j0 j1 j2 j3 HY6 HZ6 HO6 HPx HB6 hr BT b7
    go_loopw [30] (fun iv wr => MgRel C b5 (b5 + 1) r n p w3 iv wr) (fun iv _ => n - (valI iv).toNat)
    case atStart => exact HREL0
    case round =>
      obtain ⟨k, S, l, cS, hk, rfl, hl, os, y5, og, z6, bk⟩ := hrel
      have l340 : l ≤ 340 := by omega
      have HL := Lib.hid hl
      clear hl HREL0
      by_cases hlt : k < n
      · obtain ⟨ad, x, y, z, hAd, hgx, hgy, hgz, HE⟩ := (HC3.out.below bk).elem hlt
        subst hAd
        have q0 : (0 : Int) ≤ (k : Int) := by omega
        have q1 : (k : Int) < (n : Int) := by omega
        obtain ⟨bg, hbg⟩ : ∃ b, wr.heap.size = b := ⟨_, rfl⟩
        have hSg : ∀ a, S = some a → a.block < bg := fun a e => by rw [← hbg]; exact (os.born a e).2
        have hrg : r < bg := by rw [← hbg]; exact (og.born _ rfl).2
        have h5g : b5 < bg := by omega
        have HSR : Hid (∀ a, S = some a → a.block ≠ r) := fun a e => (ownApart og os _ a rfl e).symm
        have bA := belowNew wr (.cells #[.int .i64 x, .int .i64 y, .int .i64 z] 69)
        have yg := Blk.newAt (k := bg) wr #[.int .i64 x, .int .i64 y, .int .i64 z] 69 hbg.symm
        have osg := os.below bA
        have y5g := y5.below' bA
        have ogg := og.below bA
        have z6g := z6.below' bA
        obtain ⟨wg, hwg⟩ : ∃ W, W = wr.alloc (.cells #[.int .i64 x, .int .i64 y, .int .i64 z] 69) := ⟨_, rfl⟩
        rw [← hwg] at bA yg osg y5g ogg z6g
        have Bg := bk.trans (bA.mono bk.size)
        obtain ⟨⟨x', y', z'⟩, hg'⟩ : ∃ g', mvG (mgP C k) (x, y, z) = g' := ⟨_, rfl⟩
        have HG' := Lib.hid hg'
        have hpl : PlaceAt 67 #[.pointer (some ⟨b5, 0, none⟩)] (mgP C k) (p + k) wg := fun W j hj hb =>
          firstClosure_any S l cS b5 j (mgL C k) (mgP C k j) W (osg.has.below hb) (by have := HL.out; omega) ((y5g.below' hb).cell (i := 0) rfl) (mgL_at (by have := HL0.out; omega))
        have hgo : gateOk ((p + k : Nat) : Int) (x, y, z) = true := by
          have := HGO.out.gate k (by rw [HGL.out]; exact hlt)
          rw [HE.out] at this
          exact gateOk_mono this (by have := HP.out; unfold Ci.ins; push_cast; omega)
        have HMv := Lib.hid (movedGate_any 67 #[.pointer (some ⟨b5, 0, none⟩)] (enters_of Try.func67 (by kernel_rfl) rfl) (mgP C k) (p + k) x y z x' y' z' wg hpl hgo hg')
        have HOS5 := Lib.hid osg
        have HY5 := Lib.hid y5g
        have HOG := Lib.hid ogg
        have HZ6 := Lib.hid z6g
        have HBg := Lib.hid Bg
        have HYG := Lib.hid yg
        have cf : wg.cell? ⟨b5 + 1, 0, none⟩ = some (.func (.func 67) #[] #[.pointer (some ⟨b5, 0, none⟩)]) := z6g.cell (i := 0) rfl
        obtain ⟨cg0, cg1, cg2⟩ := yg.three
        clear os y5 og z6 bk bA yg osg y5g ogg z6g Bg hg' hpl hgo
        go_upto_region 10 with fail
        rw [← hwg]
        clear hwg hgx hgy hgz hbg
        go_wp2_with fail
        refine (HMv.out).mono ?_
        rintro e wm ⟨rfl, bm⟩
        have hog := HOG.out.below bm
        obtain ⟨⟨v0, d0⟩, ⟨v1, d1⟩, ⟨v2, d2⟩⟩ := gcells hog.2 hlt
        have f0 := hog.2.frozenAt (k * 3)
        have f1 := hog.2.frozenAt (k * 3 + 1)
        have f2 := hog.2.frozenAt (k * 3 + 2)
        obtain ⟨wz, hwz⟩ : ∃ W, W = ((wm.setCell ⟨r, k * 3, none⟩ (.int .i64 x')).setCell ⟨r, k * 3 + 1, none⟩ (.int .i64 y')).setCell ⟨r, k * 3 + 2, none⟩ (.int .i64 z') := ⟨_, rfl⟩
        have gz : wm.grownBy wz (some r) := by rw [hwz]; exact grown_setCell (grown_setCell (grown_setCell (World.grownBy.refl _ _) _ _) _ _) _ _
        have hlen := mgG_length C k
        have ogz : OwnG wz w3.heap.size (some ⟨r, 0, none⟩) n n (padG (mgG C (k + 1)) n) := by
          have := hog.putG (x := x') (y := y') (z := z') hlt
          rw [← hwz] at this
          have e := padG_set (g := (x', y', z')) (show (mgG C k).length < n by omega)
          rw [hlen] at e
          rw [e] at this
          rw [mgG_next, HE.out, HG'.out]
          exact this
        have osz := (HOS5.out.below bm).kept gz (fun a e e2 => HSR.out a e (by simpa using e2))
        have y5z := (HY5.out.below' bm).grown gz (by simp; omega)
        have z6z := (HZ6.out.below' bm).grown gz (by simp; omega)
        have Bz := (HBg.out.trans (bm.mono HBg.out.size)).grown gz (by have := HBg.out.size; have := bm.size; omega) (fun j hj => by simp at hj; omega)
        have HOSz := Lib.hid osz
        have HY5z := Lib.hid y5z
        have HOGz := Lib.hid ogz
        have HZ6z := Lib.hid z6z
        have HBz := Lib.hid Bz
        have sT : w3.heap.size ≤ wz.heap.size := Bz.size
        clear hog gz hlen osz y5z ogz z6z Bz HMv cg0 cg1 cg2 cf HOS5 HY5 HOG HZ6 HYG bm
        go_upto_region 11 with fail
        rw [← hwz]
        clear hwz d0 d1 d2 f0 f1 f2
        have D : Below wz.heap.size wz wz.drew := (Below.refl _ wz).drew
        obtain ⟨en, hen⟩ : ∃ en, eqTo (padG (mgG C (k + 1)) n) (x', y', z') n = en := ⟨_, rfl⟩
        have hen1 : en ≤ n := by rw [← hen]; exact eqTo_le _ _ _
        have HPL : Hid (mgL C k ++ [C.in0 + C.in1 + (en : Int)] = mgL C (k + 1)) := by
          show _ = _
          have hl : k < (mgG C (k + 1)).length := by rw [mgG_length]; omega
          have e1 : (padG (mgG C (k + 1)) n).getD k g0 = (x', y', z') := by rw [padG_at hl, mgG_last, HE.out, HG'.out]
          have e2 : en = eqTo (mgG C (k + 1)) (x', y', z') k := by
            rw [← hen]
            have := eqTo_self (gs := padG (mgG C (k + 1)) n) hlt
            rw [e1] at this
            rw [this]
            exact eqTo_congr (fun j hj => padG_at (by rw [mgG_length]; omega))
          rw [mgL_next, mgP_last, HE.out, HG'.out, ← e2, HP.out, HL0.out]
        have hFE : Hid (∀ W', Below wz.heap.size wz W' → Calls Try.prog 69 #[.slice (some ⟨r, 0, none⟩) n n, .agg #[.int .i64 x', .int .i64 y', .int .i64 z']] W' fun e w' => e = .returned (.int .i64 (en : Int)) ∧ Below W'.heap.size W' w') := fun W' hb => by
          rw [← hen]; exact firstEqual_any (some ⟨r, 0, none⟩) n n (padG (mgG C (k + 1)) n) x' y' z' W' (HOGz.out.below hb).has (by omega)
        have hK : Hid (∀ W', Below wz.heap.size wz W' → W'.cell? ⟨b5, 0, none⟩ = some (.slice S l cS) ∧ W'.frozen? ⟨b5, 0, none⟩ = false ∧ W'.cell? ⟨r, k * 3, none⟩ = some (.int .i64 x') ∧ W'.cell? ⟨r, k * 3 + 1, none⟩ = some (.int .i64 y') ∧ W'.cell? ⟨r, k * 3 + 2, none⟩ = some (.int .i64 z')) := fun W' hb => by
          have o := HOGz.out.below hb
          have hl : k < (mgG C (k + 1)).length := by rw [mgG_length]; omega
          have e1 : (padG (mgG C (k + 1)) n).getD k g0 = (x', y', z') := by rw [padG_at hl, mgG_last, HE.out, HG'.out]
          obtain ⟨g1, g2, g3⟩ := gvals_cell (padG (mgG C (k + 1)) n) k (by rw [o.1]; exact hlt)
          rw [e1] at g1 g2 g3
          exact ⟨(HY5z.out.below' hb).cell (i := 0) rfl, (HY5z.out.below' hb).free 0, (o.2.cellAt (k * 3) (by omega)).trans g1, (o.2.cellAt (k * 3 + 1) (by omega)).trans g2, (o.2.cellAt (k * 3 + 2) (by omega)).trans g3⟩
        have hw : IntKind.i64.wrap (C.in0 + C.in1 + (en : Int)) = C.in0 + C.in1 + (en : Int) := wrapIn (by omega) (by omega)
        clear hen
        obtain ⟨u0, u1, u2, u3, u4⟩ := hK.out wz.drew D
        first
          | (go_region_law (first
            | (refine stepIntK (w4.alloc (.cells #[.int .i64 (C.in0 + C.in1 + (en : Int))] 3)) rfl (.tmp 41) (.tmp 50) rfl (C.in0 + C.in1 + (en : Int)) w3.heap.size S l cS (mgL C k) w4.heap.size (by simp [Act.eval]) (by simp [Act.eval]) ((Blk.new w4 #[.int .i64 (C.in0 + C.in1 + (en : Int))] 3).cell (i := 0) rfl) ((HOSz.out.below Bq).below (belowNew w4 (.cells #[.int .i64 (C.in0 + C.in1 + (en : Int))] 3))) (by omega) (Nat.le_trans sT (Nat.le_trans Bq.size (belowNew w4 (.cells #[.int .i64 (C.in0 + C.in1 + (en : Int))] 3)).size)) ?_; intro v5 w5 own5 b5' gr5; have hbA := Bq.trans ((belowNew w4 (.cells #[.int .i64 (C.in0 + C.in1 + (en : Int))] 3)).mono Bq.size); rw [HPL.out] at own5; obtain ⟨S5, c5, rfl, os5⟩ := ownOf own5; have p5 := (HY5z.out.below' hbA).grown gr5 ((HOSz.out.below hbA).notBlk (HY5z.out.below' hbA) (by decide)); have x5 := p5.cell (i := 0) rfl; have f5 := p5.free 0)
            | (go_simp; go_at_call 69; refine Calls.mono (hFE.out wz.drew D) ?_; rintro e w4 ⟨rfl, b4⟩; have Bq := D.trans (b4.mono D.size); obtain ⟨u0, u1, u2, u3, u4⟩ := hK.out w4 Bq; obtain ⟨t0, t1, t2, t3, t4⟩ := hK.out (w4.alloc (.cells #[.int .i64 (C.in0 + C.in1 + (en : Int))] 3)) (Bq.trans ((belowNew w4 (.cells #[.int .i64 (C.in0 + C.in1 + (en : Int))] 3)).mono Bq.size)); dsimp only)))
          | fail
        all_goals
          have B5 := (HBz.out.trans (hbA.mono sT)).trans b5'
          have zA := HZ6z.out.below' hbA
          have z5 := zA.grown gr5 ((HOSz.out.below hbA).notBlk zA (by decide))
          have og5 := (HOGz.out.below hbA).kept gr5 (fun ad e e2 => by
            cases e
            cases hS : S with
            | none => rw [hS] at e2; simp [blockOf] at e2
            | some a => rw [hS] at e2; simp [blockOf] at e2; exact HSR.out a hS e2.symm)
          obtain ⟨w6, hw6⟩ : ∃ W, W = w5.setCell ⟨b5, 0, none⟩ (.slice S5 (l + 1) c5) := ⟨_, rfl⟩
          have g6 : w5.grownBy w6 (some b5) := by rw [hw6]; exact grown_setCell (World.grownBy.refl _ _) _ _
          have y6 : Blk w6 b5 #[.slice S5 (l + 1) c5] 23 := by rw [hw6]; exact p5.set 0 _
          have os6 := os5.kept g6 (fun ad e e2 => os5.notBlk p5 (by decide) (by rw [e]; simpa [blockOf] using e2.symm))
          have og6 := og5.kept g6 (fun ad e e2 => by cases e; simp at e2; omega)
          have z6 := z5.grown g6 (by simp)
          have B6 := B5.grown g6 B5.size (fun j hj => by simp at hj; omega)
          have REL : MgRel C b5 (b5 + 1) r n p w3 (.int .i64 ((k : Int) + 1)) w6 := ⟨k + 1, S5, l + 1, c5, by omega, by go_num, by have := HL.out; omega, os6, y6, og6, z6, B6⟩
          have HREL := Lib.hid REL
          rw [← hw6]
          clear hw6 g6 y6 os6 og6 z6 B6 REL B5 zA z5 og5 x5 f5 p5 os5 gr5 b5' own5 u0 u1 u2 u3 u4 t0 t1 t2 t3 t4 hw b4
          go_wp2_with fail
          go_roundw
          case rel => first | exact HREL.out | ((repeat apply Exists.intro); exact ⟨HREL.out, rfl⟩)
          case measure => simp [valI]; omega
      · obtain rfl : k = n := by omega
        have hlI : l = p + k := HL.out
        have hos : ∀ j, j < C.os.length → 0 ≤ C.os.getD j 0 ∧ C.os.getD j 0 < (l : Int) := fun j hj => by
          have h1 := HGO.out.out j hj
          have h2 := HP.out
          have h3 := HGL.out
          unfold Ci.wires at h1
          omega
        have HCh : Hid (Calls Try.prog 70 #[.slice O q d, .func (.func 71) #[] #[.pointer (some ⟨b5 + 1, 0, none⟩)]] wr fun e w' => ∃ R, e = .returned (.slice R q q) ∧ Own w' wr.heap.size R q q (mapTo (fun j => mgP C k (C.os.getD j 0).toNat) q) ∧ Below wr.heap.size wr w') :=
          changedII_any 71 #[.pointer (some ⟨b5 + 1, 0, none⟩)] (enters_of Try.func71 (by kernel_rfl) rfl) (fun j => mgP C k (C.os.getD j 0).toNat) O q d C.os wr (HO3.out.below bk) (by omega) (fun W j hj hb => by
            have hj2 := hos j (by rw [HOL.out]; exact hj)
            have e : C.os.getD j 0 = ((C.os.getD j 0).toNat : Int) := by omega
            have := outClosure_any S l cS b5 (b5 + 1) (C.os.getD j 0).toNat (j : Int) (mgL C k) (mgP C k (C.os.getD j 0).toNat) W (os.has.below hb) (by omega) ((y5.below' hb).cell (i := 0) rfl) ((z6.below' hb).cell (i := 0) rfl) (mgL_at (by have := HL0.out; omega))
            rw [← e] at this
            exact this)
        have hRC : RC = ⟨C.in0, C.in1, padG (mgG C k) k, mapTo (fun j => mgP C k (C.os.getD j 0).toNat) q⟩ := by
          have h1 := mgG_length C k
          have h2 : padG (mgG C k) k = mgG C k := by have := padG_full (mgG C k); rwa [h1] at this
          rw [← HD.out, mergeC, HGL.out, h2, list_eq_mapTo (C.os.map fun z => mgP C k z.toNat), List.length_map, HOL.out]
          congr 1
          exact mapTo_eq (fun j hj => by
            have : j < C.os.length := by rw [HOL.out]; exact hj
            simp [List.getD, this])
        have HRC := Lib.hid hRC
        have pk := HP3.out.below' bk
        have rk := HR3.out.below' bk
        obtain ⟨k0, k1, k2, k3⟩ := pk.four
        have B8 := Lib.hid (HB3.out.trans (bk.mono HB3.out.size))
        have HOGk := Lib.hid og
        have HBK := Lib.hid bk
        have sk := bk.size
        clear hos hRC os y5 og z6 hlI bk
        go_wp2_with fail
        refine (HCh.out).mono ?_
        rintro e w9 ⟨R9, rfl, o9, b9⟩
        have p9 := pk.below' b9
        have r9 := rk.below' b9
        have B9 := B8.out.trans (b9.mono B8.out.size)
        have og9 := HOGk.out.below b9
        clear k0 k1 k2 k3
        obtain ⟨k0, k1, k2, k3⟩ := p9.four
        obtain ⟨c0, c1, c2, c3⟩ := r9.four
        have f0 := r9.free 0
        have f1 := r9.free 1
        have f2 := r9.free 2
        have f3 := r9.free 3
        have on : OwnC w9 w3.heap.size (.agg #[.int .i64 C.in0, .int .i64 C.in1, .slice (some ⟨r, 0, none⟩) k k, .slice R9 q q]) RC := by
          rw [HRC.out]
          exact ⟨some ⟨r, 0, none⟩, k, k, R9, q, q, rfl, og9, o9.mono sk⟩
        obtain ⟨zn, h1, h2⟩ := fourSet (a := .int .i64 C.in0) (b := .int .i64 C.in1) (c := .slice (some ⟨r, 0, none⟩) k k) (d := .slice R9 q q) on r9 (show w.heap.size + 1 < w3.heap.size by omega) B9 (Nat.le_succ _)
        have HF := Lib.hid (And.intro zn (And.intro h1 h2))
        clear zn h1 h2 on r9 p9 og9 o9 B9 b9 pk rk HCh
        go_wp2_with fail
        obtain ⟨zn, h1, h2⟩ := HF.out
        obtain ⟨z0, z1, z2, z3⟩ := zn.four
        refine bodyPost_ret (v := .tuple #[.agg #[.int .i64 C.in0, .int .i64 C.in1, .slice (some ⟨r, 0, none⟩) k k, .slice R9 q q], .bool true]) (by simp [results, Try.results18, go_sem, z0, z1, z2, z3]) rfl ⟨_, rfl, h1.mono (by omega), HSZ.out.1, HSZ.out.2, h2⟩

end Go.Proofs.Yteiibneaihdmbaa
