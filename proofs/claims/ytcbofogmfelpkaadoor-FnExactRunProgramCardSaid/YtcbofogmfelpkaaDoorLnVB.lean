/- Several texts in one: LnV5, LnV6, LnV7, LnV8, LnV9. What each says stands at its head. -/
import Derived.Test.YtcbofogmfelpkaaDoorLnVA
import Derived.BigQuiet
import Derived.Deep.QuietTactic
import Derived.Deep.RegionHeld3
import Derived.StillTailTactics
import Derived.Deep.RegionLaw
import Derived.Deep.DeepCutAuto

/- The program's test of inputs, its operations, and the value of a line that is no input. For lists of at most 1048576 numbers; the words of the operations are as start-up lays them. -/
namespace Go.Proofs.YtcbofogmfelpkaaDoor
open Go Go.RowKit
set_option maxRecDepth 100000


set_option maxRecDepth 100000 in
set_option maxHeartbeats 2000000 in
theorem areWithin_any (U : Option Addr) (n c : Nat) (ws : List Int) (A : Option Addr) (m d : Nat) (zs : List Int) (b : Bool) (w : World) (hU : Has w U n ws) (hA : Has w A m zs) (hn : n ≤ 1048576) (hm : m ≤ 1048576) (hw : ∀ k, k < n → 0 ≤ ws.getD k 0 ∧ ws.getD k 0 ≤ 10) (hb : fitB ws zs = b) :
    Calls Tryd.prog 64 #[.slice A m d, .slice U n c] w fun e w' => e = .returned (.bool b) ∧ w = w' := by
  have HU := Lib.hid hU
  have HA := Lib.hid hA
  have HLU : Hid (ws.length = n) := hU.1
  have HLA : Hid (zs.length = m) := hA.1
  have HW := Lib.hid hw
  have HB := Lib.hid hb
  have HPow := Lib.hid pow2_10
  clear hU hA hw hb
  by_cases hnm : n = m
  · subst hnm
    go_enter Tryd.func64, Tryd.ntmps64
    go_wp2_with fail
    go_loop [14] (fun i => ∃ k : Nat, k ≤ n ∧ i = .int .i64 k ∧ Hid (∀ j, j < k → (decide (0 ≤ zs.getD j 0) && decide (zs.getD j 0 < 2 ^ (ws.getD j 0).toNat)) = true)) (fun i => n - (intOf i).toNat)
    case atStart => exact ⟨0, Nat.zero_le _, rfl, fun j hj => absurd hj (Nat.not_lt_zero _)⟩
    case round =>
      obtain ⟨k, hk, rfl, HN⟩ := hrel
      by_cases hlt : k < n
      · obtain ⟨ad, u, rfl, hcu, HEu⟩ := HU.out.elem hlt
        obtain ⟨ad2, z, rfl, hcz, HEz⟩ := HA.out.elem hlt
        have hw := HW.out k hlt
        rw [← HEu.out] at hw
        obtain ⟨p, rfl⟩ : ∃ p : Nat, u = (p : Int) := ⟨u.toNat, by omega⟩
        have p2 := HPow.out p (by omega)
        obtain ⟨bv, hbv⟩ : ∃ b, (decide (0 ≤ z) && decide (z < 2 ^ p)) = b := ⟨_, rfl⟩
        have I2 := Lib.hid (isBelowL_any z (2 ^ p) bv w hbv)
        have HBv : Hid ((decide (0 ≤ zs.getD k 0) && decide (zs.getD k 0 < 2 ^ (ws.getD k 0).toNat)) = bv) := by
          show _ = _
          rw [← HEu.out, ← HEz.out, ← hbv, Int.toNat_natCast]
        have k0 : (0 : Int) ≤ (k : Int) := by omega
        have k1 : (k : Int) < (n : Int) := by omega
        obtain ⟨p21, p22⟩ := p2
        have p10 : p ≤ 10 := by omega
        clear hbv hw
        cases bv with
        | false =>
          have HF : Hid (b = false) := by show _ = _; rw [← HB.out]; exact fit_no (by rw [HLU.out]; exact hlt) HBv.out
          go_wp2_with fail
          refine (I2.out).mono ?_
          rintro e w' ⟨rfl, rfl⟩
          go_wp2_with fail
          go_ret
          exact ⟨retBl HF.out.symm, rfl⟩
        | true =>
          have HN2 : Hid (∀ j, j < k + 1 → (decide (0 ≤ zs.getD j 0) && decide (zs.getD j 0 < 2 ^ (ws.getD j 0).toNat)) = true) := fun j hj => by
            by_cases e : j = k
            · rw [e]; exact HBv.out
            · exact HN.out j (by omega)
          go_wp2_with fail
          refine (I2.out).mono ?_
          rintro e w' ⟨rfl, rfl⟩
          go_wp2_with fail
          go_round
          case rel => exact ⟨k + 1, by omega, by go_num, HN2⟩
          case measure => simp [intOf]; omega
      · have HF : Hid (b = true) := by show _ = _; rw [← HB.out]; exact fit_yes (by rw [HLU.out, HLA.out]) (fun j hj => HN.out j (by rw [HLU.out] at hj; omega))
        go_wp2_with fail
        go_ret
        exact ⟨retBl HF.out.symm, rfl⟩
  · have HF : Hid (b = false) := by show _ = _; rw [← HB.out]; exact fit_len (by rw [HLU.out, HLA.out]; exact hnm)
    have hmn : ¬ m = n := fun e => hnm e.symm
    go_enter Tryd.func64, Tryd.ntmps64
    go_wp2_with fail
    go_ret
    exact ⟨retBl HF.out.symm, rfl⟩

theorem bitIf_any (b : Bool) (w : World) : Calls Tryd.prog 116 #[.bool b] w fun e w' => e = .returned (.int .i64 (if b = true then 1 else 0)) ∧ w = w' := by
  cases b
  · go_enter Tryd.func116, Tryd.ntmps116
    go_wp2_with fail
    go_ret
    exact ⟨rfl, rfl⟩
  · go_enter Tryd.func116, Tryd.ntmps116
    go_wp2_with fail
    go_ret
    exact ⟨rfl, rfl⟩

set_option maxHeartbeats 1000000 in
theorem residue2_any (a m : Int) (w : World) (ha : -2000 ≤ a) (hb : a ≤ 2048) (hm : 0 < m) (hm2 : m ≤ 1024) :
    Calls Tryd.prog 115 #[.int .i64 a, .int .i64 m] w fun e w' => e = .returned (.int .i64 (a % m)) ∧ w = w' := by
  by_cases h0 : 0 ≤ a
  · have e0 := Int.emod_nonneg a (show m ≠ 0 by omega)
    have e1 := Int.emod_lt_of_pos a hm
    go_enter Tryd.func115, Tryd.ntmps115
    go_wp2_with fail
    go_ret
    exact ⟨retI (by rw [Int.add_emod_right, Int.emod_emod]), rfl⟩
  · have e0 := Int.lt_tmod_of_pos a hm
    have e1 := Int.tmod_lt_of_pos a hm
    have HT := Lib.hid (tmodMod a m)
    go_enter Tryd.func115, Tryd.ntmps115
    go_wp2_with fail
    go_ret
    exact ⟨retI HT.out, rfl⟩

set_option maxRecDepth 100000 in
set_option maxHeartbeats 4000000 in
/-- The program's operations; p: the width of the result where it is needed. -/
theorem opValue_any (j p : Nat) (a b : Int) (w : World) (hj : j < 8) (hp : p ≤ 10) (ha : 0 ≤ a ∧ a ≤ 1024) (hb : 0 ≤ b ∧ b ≤ 1024) :
    Calls Tryd.prog 111 #[.int .i64 (j : Int), .int .i64 (p : Int), .int .i64 a, .int .i64 b] w fun e w' => e = .returned (.int .i64 (opV j (p : Int) a b)) ∧ w = w' := by
  obtain ⟨p21, p22⟩ := pow2_10 p hp
  obtain ⟨ha0, ha1⟩ := ha
  obtain ⟨hb0, hb1⟩ := hb
  have hab : 0 ≤ a * b ∧ a * b ≤ 1048576 := ⟨Int.mul_nonneg ha0 hb0, by have := Int.mul_le_mul ha1 hb1 hb0 (by omega : (0 : Int) ≤ 1024); omega⟩
  obtain ⟨hab0, hab1⟩ := hab
  rcases (by omega : j = 0 ∨ j = 1 ∨ j = 2 ∨ j = 3 ∨ j = 4 ∨ j = 5 ∨ j = 6 ∨ j = 7) with h | h | h | h | h | h | h | h <;> subst h
  · have HF : Hid (opV 0 (p : Int) a b = (a + b) % 2 ^ p) := by show _ = _; simp [opV]
    have HM := Lib.hid (residue2_any (a + b) (2 ^ p) w (by omega) (by omega) (by omega) (by omega))
    go_enter Tryd.func111, Tryd.ntmps111
    go_wp2_with fail
    refine (HM.out).mono ?_
    rintro e w' ⟨rfl, rfl⟩
    go_wp2_with fail
    go_ret
    exact ⟨retI HF.out.symm, rfl⟩
  · have HF : Hid (opV 1 (p : Int) a b = (a - b) % 2 ^ p) := by show _ = _; simp [opV]
    have HM := Lib.hid (residue2_any (a - b) (2 ^ p) w (by omega) (by omega) (by omega) (by omega))
    go_enter Tryd.func111, Tryd.ntmps111
    go_wp2_with fail
    refine (HM.out).mono ?_
    rintro e w' ⟨rfl, rfl⟩
    go_wp2_with fail
    go_ret
    exact ⟨retI HF.out.symm, rfl⟩
  · have HF : Hid (opV 2 (p : Int) a b = a * b) := by show _ = _; simp [opV]
    go_enter Tryd.func111, Tryd.ntmps111
    go_wp2_with fail
    go_ret
    exact ⟨retI HF.out.symm, rfl⟩
  · have HF : Hid (opV 3 (p : Int) a b = if decide (a < b) = true then 1 else 0) := by show _ = _; simp [opV]
    have HM := Lib.hid (bitIf_any (decide (a < b)) w)
    go_enter Tryd.func111, Tryd.ntmps111
    go_wp2_with fail
    refine (HM.out).mono ?_
    rintro e w' ⟨he, rfl⟩
    rw [← HF.out] at he
    subst he
    go_wp2_with fail
    go_ret
    exact ⟨rfl, rfl⟩
  · have HF : Hid (opV 4 (p : Int) a b = if (a == b) = true then 1 else 0) := by show _ = _; simp [opV]
    have HM := Lib.hid (bitIf_any (a == b) w)
    go_enter Tryd.func111, Tryd.ntmps111
    go_wp2_with fail
    refine (HM.out).mono ?_
    rintro e w' ⟨he, rfl⟩
    rw [← HF.out] at he
    subst he
    go_wp2_with fail
    go_ret
    exact ⟨rfl, rfl⟩
  · have HF : Hid (opV 5 (p : Int) a b = bits .and .i64 a b) := by show _ = _; simp [opV]
    go_enter Tryd.func111, Tryd.ntmps111
    go_wp2_with fail
    go_ret
    exact ⟨retI HF.out.symm, rfl⟩
  · have HF : Hid (opV 6 (p : Int) a b = bits .or .i64 a b) := by show _ = _; simp [opV]
    go_enter Tryd.func111, Tryd.ntmps111
    go_wp2_with fail
    go_ret
    exact ⟨retI HF.out.symm, rfl⟩
  · have HF : Hid (opV 7 (p : Int) a b = bits .xor .i64 a b) := by show _ = _; simp [opV]
    go_enter Tryd.func111, Tryd.ntmps111
    go_wp2_with fail
    go_ret
    exact ⟨retI HF.out.symm, rfl⟩

set_option maxRecDepth 100000 in
set_option maxHeartbeats 4000000 in
theorem lineValue_any (kd : Int) (nm o : ByteArray) (P : Option Addr) (m d : Nat) (py wd vl : Int) (p g q cU : Nat) (vs : List Int) (w : World) (hk : 2 ≤ kd ∧ kd ≤ 6) (hp : p ≤ 10) (hq : (q : Int) = partsK kd) (hqc : q ≤ cU) (ho : kd = 3 → opIx o < 8) (h : Has w (some ⟨g, 0, none⟩) q vs) (hz : ∀ j, 0 ≤ vs.getD j 0 ∧ vs.getD j 0 ≤ 1024) (hW : OpWords w) :
    Calls Tryd.prog 95 #[.agg #[.int .i64 kd, .string nm, .string o, .slice P m d, .int .i64 py, .int .i64 wd, .int .i64 vl], .int .i64 (p : Int), .slice (some ⟨g, 0, none⟩) q cU] w fun e w' => e = .returned (.int .i64 (lnV kd o vl (p : Int) vs)) ∧ Below w.heap.size w w' := by
  have b1 := belowNew w (.cells #[.int .i64 kd, .string nm, .string o, .slice P m d, .int .i64 py, .int .i64 wd, .int .i64 vl] 53)
  have y1 := Blk.new w #[.int .i64 kd, .string nm, .string o, .slice P m d, .int .i64 py, .int .i64 wd, .int .i64 vl] 53
  have h1 := h.below b1
  have hW1 := hW.below b1
  obtain ⟨W1, hW1e⟩ : ∃ W, W = w.alloc (.cells #[.int .i64 kd, .string nm, .string o, .slice P m d, .int .i64 py, .int .i64 wd, .int .i64 vl] 53) := ⟨_, rfl⟩
  rw [← hW1e] at b1 y1 h1 hW1
  obtain ⟨⟨k0, k1, k2, k3, k4, k5, k6⟩, _⟩ := y1.seven
  have HB1 := Lib.hid b1
  have HO : Hid (∀ W, OpWords W → Calls Tryd.prog 72 #[.string o] W fun e w' => e = .returned (.int .i64 (opIx o : Int)) ∧ w' = W) :=
    fun W hw => (opOf_any o W hw).mono fun _ _ ⟨h1, h2⟩ => ⟨h1, h2.symm⟩
  have HOw := Lib.hid hW1
  have hcl : ∀ k, k < q → W1.cell? ⟨g, k, none⟩ = some (.int .i64 (vs.getD k 0)) := fun k hk => by
    obtain ⟨ad, e, _, hc⟩ := h1.2 (by omega)
    obtain rfl : ad = ⟨g, 0, none⟩ := (Option.some.inj e).symm
    have h2 := hc k hk
    rwa [addNone'] at h2
  have HZ := Lib.hid hz
  have HC := Lib.hid hcl
  have HO8 := Lib.hid ho
  clear h hW hW1 b1 y1 h1 hz hcl ho
  obtain ⟨p21, p22⟩ := pow2_10 p hp
  rcases (by omega : kd = 2 ∨ kd = 3 ∨ kd = 4 ∨ kd = 5 ∨ kd = 6) with h | h | h | h | h <;> subst h
  · have HF : Hid (lnV 2 o vl (p : Int) vs = vl) := by show _ = _; simp [lnV]
    clear hq
    go_enter Tryd.func95, Tryd.ntmps95
    go_upto_region 1 with fail
    rw [← hW1e]
    clear hW1e
    go_wp2_with fail
    go_ret
    exact ⟨retI HF.out.symm, HB1.out⟩
  all_goals simp [partsK] at hq
  · obtain rfl : q = 2 := by omega
    have c0 := HC.out 0 (by omega)
    have c1 := HC.out 1 (by omega)
    have z0 := HZ.out 0
    have z1 := HZ.out 1
    have hF : lnV 3 o vl (p : Int) vs = opV (opIx o) (p : Int) (vs.getD 0 0) (vs.getD 1 0) := by simp [lnV]
    obtain ⟨v0, hv0⟩ : ∃ v, vs.getD 0 0 = v := ⟨_, rfl⟩
    obtain ⟨v1, hv1⟩ : ∃ v, vs.getD 1 0 = v := ⟨_, rfl⟩
    rw [hv0] at c0 z0 hF
    rw [hv1] at c1 z1 hF
    have HF := Lib.hid hF
    have HV : Hid (∀ W, Calls Tryd.prog 111 #[.int .i64 (opIx o : Int), .int .i64 (p : Int), .int .i64 v0, .int .i64 v1] W fun e w' => e = .returned (.int .i64 (opV (opIx o) (p : Int) v0 v1)) ∧ w' = W) :=
      fun W => (opValue_any (opIx o) p v0 v1 W (HO8.out rfl) hp z0 z1).mono fun _ _ ⟨h1, h2⟩ => ⟨h1, h2.symm⟩
    clear hF hv0 hv1
    go_enter Tryd.func95, Tryd.ntmps95
    go_upto_region 1 with fail
    rw [← hW1e]
    clear hW1e
    go_wp2_with fail
    go_quiet (first | (go_at_call 72; exact Calls.quiet_of_same (HO.out _ (HOw.out.below (below_drewN (Below.refl _ _) _)))) | (go_at_call 72; exact Calls.quiet_of_same (HO.out _ HOw.out)) | (go_at_call 111; exact Calls.quiet_of_same (HV.out _)))
    go_wp2_with fail
    go_ret
    exact ⟨retI HF.out.symm, below_drewN HB1.out _⟩
  · obtain rfl : q = 1 := by omega
    have c0 := HC.out 0 (by omega)
    have z0 := HZ.out 0
    have hF : lnV 4 o vl (p : Int) vs = 2 ^ p - 1 - vs.getD 0 0 := by simp [lnV]
    obtain ⟨v0, hv0⟩ : ∃ v, vs.getD 0 0 = v := ⟨_, rfl⟩
    rw [hv0] at c0 z0 hF
    have HF := Lib.hid hF
    obtain ⟨z01, z02⟩ := z0
    clear hF hv0
    go_enter Tryd.func95, Tryd.ntmps95
    go_upto_region 1 with fail
    rw [← hW1e]
    clear hW1e
    go_wp2_with fail
    go_quiet (fail)
    go_wp2_with fail
    go_ret
    exact ⟨retI HF.out.symm, below_drewN HB1.out _⟩
  · obtain rfl : q = 3 := by omega
    have c0 := HC.out 0 (by omega)
    have c1 := HC.out 1 (by omega)
    have c2 := HC.out 2 (by omega)
    have hF : lnV 5 o vl (p : Int) vs = if vs.getD 0 0 = 1 then vs.getD 1 0 else vs.getD 2 0 := by simp [lnV]
    obtain ⟨v0, hv0⟩ : ∃ v, vs.getD 0 0 = v := ⟨_, rfl⟩
    obtain ⟨v1, hv1⟩ : ∃ v, vs.getD 1 0 = v := ⟨_, rfl⟩
    obtain ⟨v2, hv2⟩ : ∃ v, vs.getD 2 0 = v := ⟨_, rfl⟩
    rw [hv0, hv1, hv2] at hF
    rw [hv0] at c0
    rw [hv1] at c1
    rw [hv2] at c2
    clear hv0 hv1 hv2
    by_cases h1 : v0 = 1
    · subst h1
      have HF : Hid (lnV 5 o vl (p : Int) vs = v1) := by show _ = _; rw [hF, if_pos rfl]
      clear hF
      go_enter Tryd.func95, Tryd.ntmps95
      go_upto_region 1 with fail
      rw [← hW1e]
      clear hW1e
      go_wp2_with fail
      go_ret
      exact ⟨retI HF.out.symm, HB1.out⟩
    · have HF : Hid (lnV 5 o vl (p : Int) vs = v2) := by show _ = _; rw [hF, if_neg h1]
      have h2 : (v0 == 1) = false := by simpa using h1
      clear hF
      go_enter Tryd.func95, Tryd.ntmps95
      go_upto_region 1 with fail
      rw [← hW1e]
      clear hW1e
      go_wp2_with fail
      go_ret
      exact ⟨retI HF.out.symm, HB1.out⟩
  · obtain rfl : q = 1 := by omega
    have c0 := HC.out 0 (by omega)
    have hF : lnV 6 o vl (p : Int) vs = vs.getD 0 0 := by simp [lnV]
    obtain ⟨v0, hv0⟩ : ∃ v, vs.getD 0 0 = v := ⟨_, rfl⟩
    rw [hv0] at c0 hF
    have HF := Lib.hid hF
    clear hF hv0
    go_enter Tryd.func95, Tryd.ntmps95
    go_upto_region 1 with fail
    rw [← hW1e]
    clear hW1e
    go_wp2_with fail
    go_ret
    exact ⟨retI HF.out.symm, HB1.out⟩

end Go.Proofs.YtcbofogmfelpkaaDoor

/- The closure of the program's valuesByLine. For lists of at most 1048576 lines and inputs that are asked; the words of the operations are as start-up lays them. -/
namespace Go.Proofs.YtcbofogmfelpkaaDoor
open Go Go.RowKit Go.Maps
set_option maxRecDepth 100000


theorem grownTrans {w w' w'' : World} {row : Option Nat} (h : w.grownBy w' row) (h' : w'.grownBy w'' row) : w.grownBy w'' row :=
  ⟨h'.os.trans h.os, h'.tape.trans h.tape, h'.output.trans h.output, Nat.le_trans h.size h'.size, fun i hi hne => (h'.block i (Nat.lt_of_lt_of_le hi h.size) hne).trans (h.block i hi hne)⟩
theorem grownNew {w w' : World} {row : Option Nat} (h : w.grownBy w' row) {b : Nat} (hb : w.heap.size ≤ b) (i : Nat) (v : Value) : w.grownBy (w'.setCell ⟨b, i, none⟩ v) row :=
  ⟨h.os, h.tape, h.output, by simpa [World.setCell] using h.size, fun k hk hne => (Below.heap_setCell w' ⟨b, i, none⟩ v k (fun e => by have : k = b := e; omega)).trans (h.block k hk hne)⟩
theorem grownMore {w w' w'' : World} {r : Option Nat} {b : Nat} (h : w.grownBy w' r) (hg : w'.grownBy w'' (some b)) (hb : w.heap.size ≤ b) : w.grownBy w'' r :=
  ⟨hg.os.trans h.os, hg.tape.trans h.tape, hg.output.trans h.output, Nat.le_trans h.size hg.size, fun i hi hne => (hg.block i (Nat.lt_of_lt_of_le hi h.size) (fun e => by have := Option.some.inj e; omega)).trans (h.block i hi hne)⟩
theorem cellGrown {w w' : World} {q b i : Nat} {v : Value} (h : w.grownBy w' (some q)) (hne : b ≠ q) (hc : w.cell? ⟨b, i, none⟩ = some v) : w'.cell? ⟨b, i, none⟩ = some v :=
  (World.cell?_of_block (h.block b (World.block_lt_of_cell? w _ hc) (fun e => hne (Option.some.inj e)))).trans hc
theorem NumS.grown {w w' : World} {b k : Nat} {f : ByteArray → Int} {row : Option Nat} (h : NumS w b k f) (hg : w.grownBy w' row) (hne : some b ≠ row) : NumS w' b k f := by
  have hl := h.lt
  obtain ⟨D, ⟨es, clock, hh, r1⟩, r⟩ := h
  exact ⟨D, ⟨es, clock, (hg.block b hl hne).trans hh, r1⟩, r⟩

/-- Block q holds what is left of both parties' inputs behind the first k lines; the numbers lie below block S. -/
def Ins (S q : Nat) (w : World) (xs ys : List Int) (ls : List Ln) (k : Nat) : Prop :=
  ∃ va vb : Value, Blk w q #[va, vb] 68 ∧ InLeft S w va xs (cntIn 0 (ls.take k)) ∧ InLeft S w vb ys (cntIn 1 (ls.take k))
theorem Ins.lt {S q k : Nat} {w : World} {xs ys : List Int} {ls : List Ln} (h : Ins S q w xs ys ls k) : q < w.heap.size := by
  obtain ⟨va, vb, h1, _⟩ := h
  exact h1.lt
theorem Ins.below {S q k : Nat} {w w' : World} {xs ys : List Int} {ls : List Ln} (h : Ins S q w xs ys ls k) (hb : Below w.heap.size w w') (hS : S ≤ q) : Ins S q w' xs ys ls k := by
  have hl := h.lt
  obtain ⟨va, vb, h1, h2, h3⟩ := h
  exact ⟨va, vb, h1.below' hb, h2.below (hb.mono (by omega)), h3.below (hb.mono (by omega))⟩
theorem Ins.other {S q k b : Nat} {w : World} {xs ys : List Int} {ls : List Ln} (h : Ins S q w xs ys ls k) (hb : b ≠ q) (hS : S ≤ b) (i : Nat) (v : Value) : Ins S q (w.setCell ⟨b, i, none⟩ v) xs ys ls k := by
  obtain ⟨va, vb, h1, h2, h3⟩ := h
  exact ⟨va, vb, h1.other hb i v, h2.below ((Below.refl _ _).setCell hS _), h3.below ((Below.refl _ _).setCell hS _)⟩
theorem Ins.grown {S q k b : Nat} {w w' : World} {xs ys : List Int} {ls : List Ln} (h : Ins S q w xs ys ls k) (hg : w.grownBy w' (some b)) (hb : b ≠ q) (hS : S ≤ b) (hq : S ≤ q) : Ins S q w' xs ys ls k := by
  have hl := h.lt
  obtain ⟨va, vb, h1, h2, h3⟩ := h
  have hB : Below S w w' := (Below.refl S w).grown hg (by omega) (fun x e => by have := Option.some.inj e; omega)
  exact ⟨va, vb, h1.grown hg (by simpa using fun e => hb e.symm), h2.below hB, h3.below hB⟩

/-- One number less is left of party p's inputs, the other's lie as they lay. -/
def OneLess (p S q2 : Nat) (va vb : Value) (xs : List Int) (i : Nat) (w' : World) : Prop := ∃ v', Blk w' q2 (if p = 0 then #[v', vb] else #[va, v']) 68 ∧ InLeft S w' v' xs (i + 1)

set_option maxRecDepth 100000 in
set_option maxHeartbeats 4000000 in
/-- A line that is an input of party p (0 or 1). -/
theorem vals1_in (p : Nat) (S q0 q5 q2 : Nat) (ad : Addr) (n c : Nat) (k : Nat) (X : Option Addr) (q cU : Nat) (va vb : Value) (xs : List Int) (i : Nat) (w : World) (hp : p = 0 ∨ p = 1) (hq0 : w.cell? ⟨q0, 0, none⟩ = some (.slice (some ad) n c)) (hk : k < n)
    (ck : w.cell? (ad.add (k * 7)) = some (.int .i64 1)) (cp : w.cell? ⟨(ad.add (k * 7)).block, (ad.add (k * 7)).off + 4, none⟩ = some (.int .i64 (p : Int)))
    (hB : Blk w q2 #[va, vb] 68) (hI : InLeft S w (if p = 0 then va else vb) xs i) (hi : i < xs.length) (hS : S ≤ q2) (_ne0 : q0 ≠ q2) (nea : ad.block ≠ q2) :
    Calls Tryd.prog 94 #[.int .i64 (k : Int), .slice X q cU, .pointer (some ⟨q0, 0, none⟩), .pointer (some ⟨q5, 0, none⟩), .pointer (some ⟨q2, 0, none⟩)] w
      fun e w' => e = .returned (.int .i64 (xs.getD i 0)) ∧ OneLess p S q2 va vb xs i w' ∧ w.grownBy w' (some q2) := by
  obtain ⟨ad1, m1, d1, e1, hz1, hm1, hm2, hadS, HS1, HS2⟩ := hI.step hi
  have hne1 : ad1.block ≠ q2 := by omega
  obtain ⟨z, hz⟩ : ∃ z, xs.getD i 0 = z := ⟨_, rfl⟩
  rw [hz] at hz1 ⊢
  have k0 : (0 : Int) ≤ (k : Int) := by omega
  have k1 : (k : Int) < (n : Int) := by omega
  have lA := hB.lt
  have nea' : (ad.add (k * 7)).block ≠ q2 := by rw [addBlock]; exact nea
  have v0 := hB.cell (i := 0) rfl
  have v1 := hB.cell (i := 1) rfl
  have f0 := hB.free 0
  have f1 := hB.free 1
  have HBk := Lib.hid hB
  have HG0 := Lib.hid (World.grownBy.refl w (some q2))
  have HBS := Lib.hid (Below.refl S w)
  clear hB hI hz
  rcases hp with h | h <;> subst h
  · simp only [if_true] at e1
    subst e1
    by_cases hd : d1 = 1
    · subst hd
      obtain rfl : m1 = 0 := by omega
      go_enter Tryd.func94, Tryd.ntmps94
      go_wp2_with fail
      go_still_tail 8, (by kernel_rfl)
      change wpList _ _ _ _ _ w.drew
      obtain ⟨w2, hw2⟩ : ∃ x, x = w.drew := ⟨_, rfl⟩
      have hd0 : w2.cell? ⟨q2, 0, none⟩ = some (.slice (some ad1) (0 + 1) 1) := by rw [hw2]; exact v0
      have hf0 : w2.frozen? ⟨q2, 0, none⟩ = false := by rw [hw2]; exact f0
      have hz2 : ∀ v : Value, (w2.setCell ⟨q2, 0, none⟩ v).cell? ad1 = some (.int .i64 z) := fun v => by rw [hw2]; exact (World.cell?_of_block (Below.heap_setCell w.drew ⟨q2, 0, none⟩ v ad1.block hne1)).trans hz1
      rw [← hw2]
      have HW2 := Lib.hid hw2
      clear hw2 v0 v1 f0 f1 hz1 hq0 ck cp
      go_wp2_with fail
      go_ret
      obtain rfl := HW2.out
      exact ⟨rfl, ⟨_, (show Blk w.drew q2 _ _ from HBk.out).set 0 _, (HS2.out (by trivial)).below (((Below.refl S w).drew).setCell hS _)⟩, grown_setCell (grownOf ((Below.refl _ w).drew) _) _ _⟩
    · have hd1 : (1 : Int) ≤ (m1 : Int) + 1 := by omega
      go_enter Tryd.func94, Tryd.ntmps94
      go_wp2_with fail
      go_still_tail 8, (by kernel_rfl)
      change wpList _ _ _ _ _ w.drew
      obtain ⟨w2, hw2⟩ : ∃ x, x = w.drew := ⟨_, rfl⟩
      have hd0 : w2.cell? ⟨q2, 0, none⟩ = some (.slice (some ad1) (m1 + 1) d1) := by rw [hw2]; exact v0
      have hf0 : w2.frozen? ⟨q2, 0, none⟩ = false := by rw [hw2]; exact f0
      have hz2 : ∀ v : Value, (w2.setCell ⟨q2, 0, none⟩ v).cell? ad1 = some (.int .i64 z) := fun v => by rw [hw2]; exact (World.cell?_of_block (Below.heap_setCell w.drew ⟨q2, 0, none⟩ v ad1.block hne1)).trans hz1
      rw [← hw2]
      have HW2 := Lib.hid hw2
      clear hw2 v0 v1 f0 f1 hz1 hq0 ck cp
      go_wp2_with fail
      go_ret
      obtain rfl := HW2.out
      exact ⟨rfl, ⟨_, (show Blk w.drew q2 _ _ from HBk.out).set 0 _, HS1.out.below (((Below.refl S w).drew).setCell hS _)⟩, grown_setCell (grownOf ((Below.refl _ w).drew) _) _ _⟩
  · rw [if_neg (by omega)] at e1
    subst e1
    by_cases hd : d1 = 1
    · subst hd
      obtain rfl : m1 = 0 := by omega
      go_enter Tryd.func94, Tryd.ntmps94
      go_wp2_with fail
      go_still_tail 8, (by kernel_rfl)
      change wpList _ _ _ _ _ w.drew
      obtain ⟨w2, hw2⟩ : ∃ x, x = w.drew := ⟨_, rfl⟩
      have hd0 : w2.cell? ⟨q2, 1, none⟩ = some (.slice (some ad1) (0 + 1) 1) := by rw [hw2]; exact v1
      have hf0 : w2.frozen? ⟨q2, 1, none⟩ = false := by rw [hw2]; exact f1
      have hz2 : ∀ v : Value, (w2.setCell ⟨q2, 1, none⟩ v).cell? ad1 = some (.int .i64 z) := fun v => by rw [hw2]; exact (World.cell?_of_block (Below.heap_setCell w.drew ⟨q2, 1, none⟩ v ad1.block hne1)).trans hz1
      rw [← hw2]
      have HW2 := Lib.hid hw2
      clear hw2 v0 v1 f0 f1 hz1 hq0 ck cp
      go_wp2_with fail
      go_ret
      obtain rfl := HW2.out
      exact ⟨rfl, ⟨_, (show Blk w.drew q2 _ _ from HBk.out).set 1 _, (HS2.out (by trivial)).below (((Below.refl S w).drew).setCell hS _)⟩, grown_setCell (grownOf ((Below.refl _ w).drew) _) _ _⟩
    · have hd1 : (1 : Int) ≤ (m1 : Int) + 1 := by omega
      go_enter Tryd.func94, Tryd.ntmps94
      go_wp2_with fail
      go_still_tail 8, (by kernel_rfl)
      change wpList _ _ _ _ _ w.drew
      obtain ⟨w2, hw2⟩ : ∃ x, x = w.drew := ⟨_, rfl⟩
      have hd0 : w2.cell? ⟨q2, 1, none⟩ = some (.slice (some ad1) (m1 + 1) d1) := by rw [hw2]; exact v1
      have hf0 : w2.frozen? ⟨q2, 1, none⟩ = false := by rw [hw2]; exact f1
      have hz2 : ∀ v : Value, (w2.setCell ⟨q2, 1, none⟩ v).cell? ad1 = some (.int .i64 z) := fun v => by rw [hw2]; exact (World.cell?_of_block (Below.heap_setCell w.drew ⟨q2, 1, none⟩ v ad1.block hne1)).trans hz1
      rw [← hw2]
      have HW2 := Lib.hid hw2
      clear hw2 v0 v1 f0 f1 hz1 hq0 ck cp
      go_wp2_with fail
      go_ret
      obtain rfl := HW2.out
      exact ⟨rfl, ⟨_, (show Blk w.drew q2 _ _ from HBk.out).set 1 _, HS1.out.below (((Below.refl S w).drew).setCell hS _)⟩, grown_setCell (grownOf ((Below.refl _ w).drew) _) _ _⟩

end Go.Proofs.YtcbofogmfelpkaaDoor

/- The closure of the program's valuesByLine at a line that is no input, and whole. For lists of at most 1048576 lines and inputs that are asked; the words of the operations are as start-up lays them. -/
namespace Go.Proofs.YtcbofogmfelpkaaDoor
open Go Go.RowKit Go.Maps
set_option maxRecDepth 100000


set_option maxRecDepth 100000 in
set_option maxHeartbeats 4000000 in
theorem vals1_out (q0 q5 q2 gw cw : Nat) (ad : Addr) (n c : Nat) (k : Nat) (kd : Int) (nm o : ByteArray) (ps : List ByteArray) (P : Option Addr) (m d : Nat) (py wd vl : Int) (p g q cU : Nat) (vs : List Int) (w : World) (hq0 : w.cell? ⟨q0, 0, none⟩ = some (.slice (some ad) n c)) (hk : k < n)
    (hc : LnAt w (ad.add (k * 7)) ⟨kd, nm, o, ps, py, wd, vl⟩ P m d) (hq5 : w.cell? ⟨q5, 0, none⟩ = some (.slice (some ⟨gw, 0, none⟩) n cw)) (hwk : w.cell? ⟨gw, k, none⟩ = some (.int .i64 (p : Int)))
    (hkd : 2 ≤ kd ∧ kd ≤ 6) (hp : p ≤ 10) (hq : (q : Int) = partsK kd) (hqc : q ≤ cU) (ho : kd = 3 → opIx o < 8) (h : Has w (some ⟨g, 0, none⟩) q vs) (hz : ∀ j, 0 ≤ vs.getD j 0 ∧ vs.getD j 0 ≤ 1024) (hW : OpWords w) :
    Calls Tryd.prog 94 #[.int .i64 (k : Int), .slice (some ⟨g, 0, none⟩) q cU, .pointer (some ⟨q0, 0, none⟩), .pointer (some ⟨q5, 0, none⟩), .pointer (some ⟨q2, 0, none⟩)] w
      fun e w' => e = .returned (.int .i64 (lnV kd o vl (p : Int) vs)) ∧ Below w.heap.size w w' := by
  obtain ⟨c0, c1, c2, c3, c4, c5, c6⟩ := hc.cells
  have D : Below w.heap.size w w.drew := (Below.refl _ w).drew
  have k0 : (0 : Int) ≤ (k : Int) := by omega
  have k1 : (k : Int) < (n : Int) := by omega
  have hk1 : (kd != 1) = true := by simp; omega
  have HV : Hid (∀ W, Below w.heap.size w W → Calls Tryd.prog 95 #[.agg #[.int .i64 kd, .string nm, .string o, .slice P m d, .int .i64 py, .int .i64 wd, .int .i64 vl], .int .i64 (p : Int), .slice (some ⟨g, 0, none⟩) q cU] W fun e w' => e = .returned (.int .i64 (lnV kd o vl (p : Int) vs)) ∧ Below W.heap.size W w') :=
    fun W hb => lineValue_any kd nm o P m d py wd vl p g q cU vs W hkd hp hq hqc ho (h.below hb) hz (hW.below hb)
  have hlb : ad.block < w.heap.size := by
    have := World.block_lt_of_cell? w _ c0
    rwa [addBlock] at this
  have lq0 := World.block_lt_of_cell? w _ hq0
  have lq5 := World.block_lt_of_cell? w _ hq5
  have lgw := World.block_lt_of_cell? w _ hwk
  have key : ∀ (a : Addr) (v : Value) (W' : World), a.block < w.heap.size → Below w.heap.size w W' → w.cell? a = some v → W'.cell? a = some v := fun a v W' ha hb hv => (World.cell?_of_block (hb.block _ ha)).trans hv
  have hab : (ad.add (k * 7)).block < w.heap.size := by rw [addBlock]; exact hlb
  have HK : Hid (∀ W', Below w.heap.size w W' → W'.cell? ⟨q0, 0, none⟩ = some (.slice (some ad) n c) ∧ W'.cell? (ad.add (k * 7)) = some (.int .i64 kd) ∧ W'.cell? ⟨(ad.add (k * 7)).block, (ad.add (k * 7)).off + 1, none⟩ = some (.string nm) ∧ W'.cell? ⟨(ad.add (k * 7)).block, (ad.add (k * 7)).off + 2, none⟩ = some (.string o) ∧ W'.cell? ⟨(ad.add (k * 7)).block, (ad.add (k * 7)).off + 3, none⟩ = some (.slice P m d) ∧ W'.cell? ⟨(ad.add (k * 7)).block, (ad.add (k * 7)).off + 4, none⟩ = some (.int .i64 py) ∧ W'.cell? ⟨(ad.add (k * 7)).block, (ad.add (k * 7)).off + 5, none⟩ = some (.int .i64 wd) ∧ W'.cell? ⟨(ad.add (k * 7)).block, (ad.add (k * 7)).off + 6, none⟩ = some (.int .i64 vl) ∧ W'.cell? ⟨q5, 0, none⟩ = some (.slice (some ⟨gw, 0, none⟩) n cw) ∧ W'.cell? ⟨gw, k, none⟩ = some (.int .i64 (p : Int))) :=
    fun W' hb => ⟨key _ _ W' lq0 hb hq0, key _ _ W' hab hb c0, key _ _ W' hab hb c1, key _ _ W' hab hb c2, key _ _ W' hab hb c3, key _ _ W' hab hb c4, key _ _ W' hab hb c5, key _ _ W' hab hb c6, key _ _ W' lq5 hb hq5, key _ _ W' lgw hb hwk⟩
  clear hc key hab hlb h hz hW hq ho lq0 lq5 lgw
  go_enter Tryd.func94, Tryd.ntmps94
  go_wp2_with fail
  first
    | (go_region_held3 (fun W' => W'.cell? ⟨q0, 0, none⟩ = some (.slice (some ad) n c) ∧ W'.cell? (ad.add (k * 7)) = some (.int .i64 kd) ∧ W'.cell? ⟨(ad.add (k * 7)).block, (ad.add (k * 7)).off + 1, none⟩ = some (.string nm) ∧ W'.cell? ⟨(ad.add (k * 7)).block, (ad.add (k * 7)).off + 2, none⟩ = some (.string o) ∧ W'.cell? ⟨(ad.add (k * 7)).block, (ad.add (k * 7)).off + 3, none⟩ = some (.slice P m d) ∧ W'.cell? ⟨(ad.add (k * 7)).block, (ad.add (k * 7)).off + 4, none⟩ = some (.int .i64 py) ∧ W'.cell? ⟨(ad.add (k * 7)).block, (ad.add (k * 7)).off + 5, none⟩ = some (.int .i64 wd) ∧ W'.cell? ⟨(ad.add (k * 7)).block, (ad.add (k * 7)).off + 6, none⟩ = some (.int .i64 vl) ∧ W'.cell? ⟨q5, 0, none⟩ = some (.slice (some ⟨gw, 0, none⟩) n cw) ∧ W'.cell? ⟨gw, k, none⟩ = some (.int .i64 (p : Int))) (first | exact HK.out _ D | exact HK.out _ B2 | go_keep) ((go_at_call 95; refine (HV.out w.drew D).mono ?_; rintro e w2 ⟨rfl, b2⟩; have B2 := D.trans (b2.mono D.size))))
    | fail
  all_goals
    go_wp2_with fail
    go_ret
    exact ⟨rfl, B2⟩

/-- The parts of a good line have small values. -/
theorem partVals_small {ls : List Ln} {a b : List Int} (h : askedP ls a b = true) {k : Nat} (hk : k < ls.length) (j : Nat) : 0 ≤ (partWs (ls.take k) (valsTo ls a b k) (lnAt ls k).parts).getD j 0 ∧ (partWs (ls.take k) (valsTo ls a b k) (lnAt ls k).parts).getD j 0 ≤ 1024 := by
  by_cases hj : j < (lnAt ls k).parts.length
  · obtain ⟨u, v, _, _, h3, h4, h5⟩ := part_vals h hk hj
    have := pow2_ten (n := u) h4.2
    rw [h3]
    omega
  · have e : (partWs (ls.take k) (valsTo ls a b k) (lnAt ls k).parts).getD j 0 = 0 := by
      rw [List.getD_eq_getElem?_getD, List.getElem?_eq_none (by simp [partWs]; omega)]
      rfl
    rw [e]
    omega

set_option maxRecDepth 100000 in
set_option maxHeartbeats 4000000 in
/-- The closure at the k-th line. -/
theorem vals1_any (S q0 q5 q2 gw cw : Nat) (ad : Addr) (n c : Nat) (ls : List Ln) (xs ys : List Int) (k g q cU : Nat) (w : World) (hq0 : w.cell? ⟨q0, 0, none⟩ = some (.slice (some ad) n c)) (h : HasL w (some ad) n ls) (hk : k < n) (hq : askedP ls xs ys = true)
    (hq5 : w.cell? ⟨q5, 0, none⟩ = some (.slice (some ⟨gw, 0, none⟩) n cw)) (hwk : w.cell? ⟨gw, k, none⟩ = some (.int .i64 ((widths ls).getD k 0))) (hI : Ins S q2 w xs ys ls k) (hS : S ≤ q2) (ne0 : q0 ≠ q2) (nea : ad.block ≠ q2)
    (hqp : q = (lnAt ls k).parts.length) (hqc : q ≤ cU) (hu : Has w (some ⟨g, 0, none⟩) q (partWs (ls.take k) (valsTo ls xs ys k) (lnAt ls k).parts)) (hW : OpWords w) :
    Calls Tryd.prog 94 #[.int .i64 (k : Int), .slice (some ⟨g, 0, none⟩) q cU, .pointer (some ⟨q0, 0, none⟩), .pointer (some ⟨q5, 0, none⟩), .pointer (some ⟨q2, 0, none⟩)] w
      fun e w' => e = .returned (.int .i64 ((vals5 ls xs ys).getD k 0)) ∧ Ins S q2 w' xs ys ls (k + 1) ∧ w.grownBy w' (some q2) := by
  have hL : ls.length = n := h.1
  have hkl : k < ls.length := by omega
  obtain ⟨hg, hf0, hf1⟩ := asked_yes hq
  obtain ⟨_, hls, hnm, _⟩ := good_parts hg
  have hok := line_good hls hkl
  have hkk := kind_ok hok
  have hpl := parts_ok5 hok
  have hsm := partVals_small hq hkl
  have hwd := width_at hg hkl
  rw [vals5_at ls xs ys hkl]
  obtain ⟨ad', kd, nm, o, ps, py, wd, vl, P, m, d, e, hc, _, _, _, HT⟩ := h.line hk
  obtain rfl : ad = ad' := Option.some.inj e
  obtain ⟨c0, c1, c2, c3, c4, c5, c6⟩ := hc.cells
  have n0 := cntIn_next 0 ls k hkl
  have n1 := cntIn_next 1 ls k hkl
  have ht := HT.out
  by_cases h1 : (lnAt ls k).kind = 1
  · have hpy : (lnAt ls k).party = 0 ∨ (lnAt ls k).party = 1 := by
      rw [lineOk, Bool.and_eq_true] at hok
      have h2 := hok.2
      rw [kindOk, if_pos h1] at h2
      simp only [Bool.and_eq_true, decide_eq_true_eq] at h2
      omega
    obtain ⟨va, vb, hB, ha, hb⟩ := hI
    have hkd : kd = 1 := by rw [ht] at h1; exact h1
    subst hkd
    rcases hpy with h2 | h2
    · have hin := inputs_at hkl ⟨h1, h2⟩
      have hfl := fit_at hf0 hin.1
      have hpy0 : py = 0 := by rw [ht] at h2; exact h2
      subst hpy0
      refine (vals1_in 0 S q0 q5 q2 ad n c k (some ⟨g, 0, none⟩) q cU va vb xs (cntIn 0 (ls.take k)) w (.inl rfl) hq0 hk c0 c4 hB (by simpa using ha) (by rw [← hfl.1]; exact hin.1) hS ne0 nea).mono ?_
      rintro e w' ⟨rfl, ⟨v', hB', hI'⟩, hg'⟩
      have hBw : Below S w w' := (Below.refl S w).grown hg' (by have := hB.lt; omega) (fun x e => by have := Option.some.inj e; omega)
      refine ⟨by rw [valL, if_pos h1, if_pos h2], ⟨v', vb, by simpa using hB', ?_, ?_⟩, hg'⟩
      · rw [n0, if_pos ⟨h1, h2⟩]; exact hI'
      · rw [n1, if_neg (by omega)]; exact hb.below hBw
    · have hin := inputs_at hkl ⟨h1, h2⟩
      have hfl := fit_at hf1 hin.1
      have hpy0 : py = 1 := by rw [ht] at h2; exact h2
      subst hpy0
      refine (vals1_in 1 S q0 q5 q2 ad n c k (some ⟨g, 0, none⟩) q cU va vb ys (cntIn 1 (ls.take k)) w (.inr rfl) hq0 hk c0 c4 hB (by simpa using hb) (by rw [← hfl.1]; exact hin.1) hS ne0 nea).mono ?_
      rintro e w' ⟨rfl, ⟨v', hB', hI'⟩, hg'⟩
      have hBw : Below S w w' := (Below.refl S w).grown hg' (by have := hB.lt; omega) (fun x e => by have := Option.some.inj e; omega)
      refine ⟨by rw [valL, if_pos h1, if_neg (by omega)], ⟨va, v', by simpa using hB', ?_, ?_⟩, hg'⟩
      · rw [n0, if_neg (by omega)]; exact ha.below hBw
      · rw [n1, if_pos ⟨h1, h2⟩]; exact hI'
  · have hl := hI.lt
    have hpr : ((widths ls).getD k 0).toNat ≤ 10 := by omega
    have hwk' : w.cell? ⟨gw, k, none⟩ = some (.int .i64 ((((widths ls).getD k 0).toNat : Nat) : Int)) := by rw [Int.toNat_of_nonneg (by omega)]; exact hwk
    have ho8 : kd = 3 → opIx o < 8 := fun e3 => by
      have := lineOk_op hok (by rw [ht]; exact e3)
      rwa [ht] at this
    have hkr : 2 ≤ kd ∧ kd ≤ 6 := by
      rw [ht] at hkk h1
      simp only at hkk h1
      omega
    have hq2 : (q : Int) = partsK kd := by
      rw [hqp, hpl, ht]
    refine (vals1_out q0 q5 q2 gw cw ad n c k kd nm o ps P m d py wd vl _ g q cU _ w hq0 hk hc hq5 hwk' hkr hpr hq2 hqc ho8 hu hsm hW).mono ?_
    rintro e w' ⟨rfl, hb'⟩
    refine ⟨?_, ?_, grownOf hb' _⟩
    · rw [valL, if_neg h1, Int.toNat_of_nonneg (by omega)]
      rw [ht]
    · obtain ⟨va, vb, hB, ha, hb⟩ := hI
      refine ⟨va, vb, hB.below' hb', ?_, ?_⟩
      · rw [n0, if_neg (by omega)]; exact ha.below (hb'.mono (by omega))
      · rw [n1, if_neg (by omega)]; exact hb.below (hb'.mono (by omega))

end Go.Proofs.YtcbofogmfelpkaaDoor

/- The program's values of all lines (byLine with the closure of valuesByLine, valuesByLine). For lists of at most 1048576 lines and inputs that are asked; the words of the operations are as start-up lays them. -/
namespace Go.Proofs.YtcbofogmfelpkaaDoor
open Go Go.RowKit Go.Maps
set_option maxRecDepth 100000


set_option maxRecDepth 100000 in
set_option maxHeartbeats 8000000 in
theorem byLineV_any (w0 : World) (q0 q5 q2 gw cw : Nat) (A : Option Addr) (n c : Nat) (ls : List Ln) (xs ys : List Int) (w : World) (h : HasL w0 A n ls) (hb0 : Below w0.heap.size w0 w) (hn : n ≤ 1048576) (hz : ∀ j, j < n → FitL (lnAt ls j)) (hq : askedP ls xs ys = true) (hW : OpWords w0)
    (hq0 : w.cell? ⟨q0, 0, none⟩ = some (.slice A n c)) (hq5 : w.cell? ⟨q5, 0, none⟩ = some (.slice (some ⟨gw, 0, none⟩) n cw)) (hwd : ∀ k, k < n → w.cell? ⟨gw, k, none⟩ = some (.int .i64 ((widths ls).getD k 0)))
    (hI : Ins w0.heap.size q2 w xs ys ls 0) (ne0 : q0 ≠ q2) (ne5 : q5 ≠ q2) (neg : gw ≠ q2) (hS : w0.heap.size ≤ q2) :
    Calls Tryd.prog 82 #[.slice A n c, .func (.func 94) #[] #[.pointer (some ⟨q0, 0, none⟩), .pointer (some ⟨q5, 0, none⟩), .pointer (some ⟨q2, 0, none⟩)]] w
      fun e w' => e = .returned (.slice (some ⟨w.heap.size, 0, none⟩) n n) ∧ Own w' w.heap.size (some ⟨w.heap.size, 0, none⟩) n n (vals5 ls xs ys) ∧ w.grownBy w' (some q2) := by
  have hmm := @run_makeMap Tryd.prog
  have HH := Lib.hid h
  have HL : Hid (ls.length = n) := h.1
  have HZ := Lib.hid hz
  have HAsk := Lib.hid hq
  have HPt := Lib.hid (good_parts (asked_yes hq).1)
  have HWo := Lib.hid hW
  have HB0 := Lib.hid hb0
  have HQ0 := Lib.hid hq0
  have HQ5 := Lib.hid hq5
  have HWd := Lib.hid hwd
  have HIn := Lib.hid hI
  have lq2 := hI.lt
  have s0 := hb0.size
  have hvl : (vals5 ls xs ys).length = n := by rw [vals5, valsTo_length]; exact h.1
  have HVl := Lib.hid hvl
  clear h hz hq hW hb0 hq0 hq5 hwd hI hvl
  go_enter Tryd.func82, Tryd.ntmps82
  go_upto_region 3 with (at_make; refine makeInts _ rfl _ rfl n rfl (by omega) ?_; intro w1 hf hb1)
  have t1 : w.heap.size < w1.heap.size := by
    obtain ⟨zs, ho, _⟩ := hf (vals (vals5 ls xs ys))
    exact (ho.lt w.heap.size rfl).2
  have hf0 := hf (vals (vals5 ls xs ys))
  have b2 := belowNew w1 (.cells #[.slice (some ⟨w.heap.size, 0, none⟩) n n] 32)
  have y2 := Blk.new w1 #[.slice (some ⟨w.heap.size, 0, none⟩) n n] 32
  have f2 := hf0.below b2
  obtain ⟨W2, hW2⟩ : ∃ W, W = w1.alloc (.cells #[.slice (some ⟨w.heap.size, 0, none⟩) n n] 32) := ⟨_, rfl⟩
  have s2 : W2.heap.size = w1.heap.size + 1 := by rw [hW2]; simp
  rw [← hW2] at b2 y2 f2
  have b3 := belowNew W2 (.map #[] 0)
  have m3 := NumS.new W2
  rw [s2] at m3
  have y3 := y2.below b3 (by omega)
  have f3 := f2.below b3
  obtain ⟨W3, hW3⟩ : ∃ W, W = W2.alloc (.map #[] 0) := ⟨_, rfl⟩
  have s3 : W3.heap.size = w1.heap.size + 1 + 1 := by rw [hW3]; simp; omega
  rw [← hW3] at b3 m3 y3 f3
  have b4 := belowNew W3 (.cells #[.map (some (w1.heap.size + 1))] 103)
  have z4 := Blk.newAt (k := w1.heap.size + 1 + 1) W3 #[.map (some (w1.heap.size + 1))] 103 s3.symm
  have m4 := m3.below b4 (by omega)
  have y4 := y3.below b4 (by omega)
  have f4 := f3.below b4
  obtain ⟨W4, hW4⟩ : ∃ W, W = W3.alloc (.cells #[.map (some (w1.heap.size + 1))] 103) := ⟨_, rfl⟩
  have s4 : W4.heap.size = w1.heap.size + 1 + 1 + 1 := by rw [hW4]; simp; omega
  rw [← hW4] at b4 z4 m4 y4 f4
  have B4 : Below w.heap.size w W4 := ((hb1.trans (b2.mono (by omega))).trans (b3.mono (by omega))).trans (b4.mono (by omega))
  have HF4 := Lib.hid f4
  have HM4 := Lib.hid m4
  have HY4 := Lib.hid y4
  have HZ4 := Lib.hid z4
  have HB4 : Hid (w.grownBy W4 (some q2)) := grownOf B4 _
  have HI4 : Hid (Ins w0.heap.size q2 W4 xs ys ls 0) := HIn.out.below B4 hS
  have HP0 : Hid (PlacesOk ls 0 (fun _ => 0)) := fun s hs => by simp [givenB] at hs
  rw [← hW2, ← hW3, ← hW4]
  clear hW2 hW3 hW4 hf hf0 hb1 b2 y2 f2 b3 m3 y3 f3 b4 z4 m4 y4 f4 B4
  go_wp2_with fail
  go_loopw [15] (fun i wr => ∃ (k : Nat) (f : ByteArray → Int), k ≤ n ∧ i = .int .i64 k ∧ Filled wr w.heap.size 3 w.heap.size n (vals (vals5 ls xs ys)) (fun q => q < k) ∧ Blk wr w1.heap.size #[.slice (some ⟨w.heap.size, 0, none⟩) n n] 32 ∧ NumS wr (w1.heap.size + 1) k f ∧ Blk wr (w1.heap.size + 1 + 1) #[.map (some (w1.heap.size + 1))] 103 ∧ Hid (PlacesOk ls k f) ∧ Hid (w.grownBy wr (some q2)) ∧ Hid (Ins w0.heap.size q2 wr xs ys ls k) ∧ w1.heap.size + 3 ≤ wr.heap.size) (fun i _ => n - (intOf i).toNat)
  case atStart => exact ⟨0, fun _ => 0, Nat.zero_le _, rfl, HF4.out, HY4.out, HM4.out, HZ4.out, HP0, HB4, HI4, by omega⟩
  case round =>
    obtain ⟨k, f, hk, rfl, hfk, hyk, hmk, hzk, HPk, bk, hik, sk⟩ := hrel
    have BS : Below w0.heap.size w0 wr := HB0.out.grown bk.out s0 (fun x e => by have := Option.some.inj e; omega)
    by_cases hlt : k < n
    · obtain ⟨ad, kd, nm, o, ps, py, wd, vl, P, q, d, hA, hc0, hp0, hqd, _, HT⟩ := HH.out.line hlt
      subst hA
      have hadb : ad.block < w0.heap.size := by have := World.block_lt_of_cell? w0 _ hc0.c0; rwa [addBlock] at this
      have hc : LnAt wr (ad.add (k * 7)) ⟨kd, nm, o, ps, py, wd, vl⟩ P q d := hc0.keep (by rw [addBlock]; exact BS.block _ hadb)
      have hp : HasS wr P q ps := hp0.below BS
      obtain ⟨c0, c1, c2, c3, c4, c5, c6⟩ := hc.cells
      have hkl : k < ls.length := by rw [HL.out]; exact hlt
      have hfit := HZ.out k hlt
      rw [HT.out] at hfit
      have hnl : nm.size ≤ maxLen := by have h2 := hfit.name; simp only at h2; unfold maxLen; omega
      have hql : q ≤ 16777216 := by have h1 := hp.1; have h2 := hfit.plen; simp only at h2; omega
      have hpl : ∀ j, j < q → (wordAt ps j).size ≤ maxLen := fun j hj => by have h2 := hfit.part j (by show j < ps.length; rw [hp.1]; exact hj); simp only at h2; unfold maxLen; omega
      have hnames := names_at HPt.out.2.2.1 hkl
      have k0 : (0 : Int) ≤ (k : Int) := by omega
      have k1 : (k : Int) < (n : Int) := by omega
      have b5 := belowNew wr (.cells #[.int .i64 kd, .string nm, .string o, .slice P q d, .int .i64 py, .int .i64 wd, .int .i64 vl] 53)
      have x5 := Blk.new wr #[.int .i64 kd, .string nm, .string o, .slice P q d, .int .i64 py, .int .i64 wd, .int .i64 vl] 53
      have f5 := hfk.below b5
      have y5 := hyk.below b5 (by omega)
      have m5 := hmk.below b5 (by omega)
      have z5 := hzk.below b5 (by omega)
      have p5 := hp.below b5
      have i5 := hik.out.below b5 hS
      obtain ⟨W5, hW5⟩ : ∃ W, W = wr.alloc (.cells #[.int .i64 kd, .string nm, .string o, .slice P q d, .int .i64 py, .int .i64 wd, .int .i64 vl] 53) := ⟨_, rfl⟩
      rw [← hW5] at b5 x5 f5 y5 m5 z5 p5 i5
      have s5 := b5.size
      have t5 : wr.heap.size < W5.heap.size := x5.lt
      have G5 : w.grownBy W5 (some q2) := grownTrans bk.out (grownOf b5 _)
      have BS5 : Below w0.heap.size w0 W5 := BS.trans (b5.mono BS.size)
      obtain ⟨val, hval⟩ : ∃ val : Nat → Int, val = fun j => (valsTo ls xs ys k).getD (findL (ls.take k) (wordAt ps j)).toNat 0 := ⟨_, rfl⟩
      have hparts : ∀ j, j < q → givenB (ls.take k) (wordAt ps j) = true := fun j hj => by
        have h1 := hnames.2
        rw [HT.out, List.all_eq_true] at h1
        have hj' : j < ps.length := by rw [hp.1]; exact hj
        have e : wordAt ps j = ps[j] := by simp [wordAt, List.getD_eq_getElem?_getD, List.getElem?_eq_getElem hj']
        rw [e]
        exact h1 _ (List.getElem_mem _)
      have hv : ∀ j, j < q → ∃ i : Nat, f (wordAt ps j) = (i : Int) ∧ i < n ∧ W5.cell? ⟨w.heap.size, i, none⟩ = some (.int .i64 (val j)) := fun j hj => by
        have hg := hparts j hj
        have h1 := findL_place hg
        rw [List.length_take] at h1
        have h2 := HPk.out _ hg
        refine ⟨(findL (ls.take k) (wordAt ps j)).toNat, by rw [h2]; omega, by omega, ?_⟩
        obtain ⟨zs, ho, hx⟩ := f5
        have hl : zs.length = n := by simpa using ho.1
        rw [ho.cellAt _ (by omega), hx _ (by omega) (by omega), hval]
        have e : (valsTo ls xs ys k).getD (findL (ls.take k) (wordAt ps j)).toNat 0 = (vals5 ls xs ys).getD (findL (ls.take k) (wordAt ps j)).toNat 0 := vals5_before ls xs ys (by omega) (by omega)
        simp only [e]
        have hpl := HVl.out
        simp [vals, List.getD_eq_getElem?_getD, List.getElem?_eq_getElem (show (findL (ls.take k) (wordAt ps j)).toNat < (vals5 ls xs ys).length by omega)]
      have HCh := Lib.hid (fun W (hb : Below W5.heap.size W5 W) => changedParts_any w1.heap.size (w1.heap.size + 1 + 1) (w1.heap.size + 1) k w.heap.size n n f P q d ps val W ((y5.below' hb).cell (i := 0) rfl) ((z5.below' hb).cell (i := 0) rfl) (m5.below hb (by omega)) (p5.below hb) hql hpl
        (fun j hj => by obtain ⟨i, h1, h2, h3⟩ := hv j hj; exact ⟨i, h1, h2, cellKept hb (by omega) h3⟩))
      obtain ⟨z, hz⟩ : ∃ z, (vals5 ls xs ys).getD k 0 = z := ⟨_, rfl⟩
      have hpw : partWs (ls.take k) (valsTo ls xs ys k) (lnAt ls k).parts = mapTo val q := by rw [partWs_mapTo, hval, HT.out, hp.1]
      have HCl := Lib.hid (fun W (hb : Below W5.heap.size W5 W) (g : Nat) (hu : Has W (some ⟨g, 0, none⟩) q (mapTo val q)) => vals1_any w0.heap.size q0 q5 q2 gw cw ad n c ls xs ys k g q q W (cellGrown (grownTrans G5 (grownOf hb _)) ne0 HQ0.out) (HH.out.below (BS5.trans (hb.mono BS5.size))) hlt HAsk.out
        (cellGrown (grownTrans G5 (grownOf hb _)) ne5 HQ5.out) (cellGrown (grownTrans G5 (grownOf hb _)) neg (HWd.out k hlt)) (i5.below hb hS) hS ne0 (by omega) (by rw [HT.out]; exact hp.1.symm) (Nat.le_refl _) (by rw [hpw]; exact hu) (HWo.out.below (BS5.trans (hb.mono BS5.size))))
      rw [hz] at HCl
      have HFil := Lib.hid f5
      have HKS : Hid (∀ W', W5.grownBy W' (some q2) → W'.cell? ⟨w1.heap.size, 0, none⟩ = some (.slice (some ⟨w.heap.size, 0, none⟩) n n) ∧ W'.cell? ⟨wr.heap.size, 3, none⟩ = some (.slice P q d)) := fun W' hb => ⟨cellGrown hb (by omega) (y5.cell (i := 0) rfl), cellGrown hb (by omega) (x5.cell (i := 3) rfl)⟩
      have HKS2 : Hid (∀ W' v, W5.grownBy W' (some q2) → (W'.setCell ⟨w.heap.size, k, none⟩ v).cell? ⟨w1.heap.size, 0, none⟩ = some (.slice (some ⟨w.heap.size, 0, none⟩) n n) ∧ (W'.setCell ⟨w.heap.size, k, none⟩ v).cell? ⟨wr.heap.size, 3, none⟩ = some (.slice P q d)) := fun W' v hb =>
        ⟨((y5.grown hb (by simp; omega)).other (by omega) k v).cell (i := 0) rfl, ((x5.grown hb (by simp; omega)).other (by omega) k v).cell (i := 3) rfl⟩
      have D : Below W5.heap.size W5 W5.drew := (Below.refl _ W5).drew
      have HYb := Lib.hid y5
      have HMb := Lib.hid m5
      have HZb := Lib.hid z5
      have HXb := Lib.hid x5
      have HG5 := Lib.hid G5
      have HVz : Hid ((vals (vals5 ls xs ys))[k]? = some (.int .i64 z)) := by
        show _ = _
        have hpl : k < (vals5 ls xs ys).length := by rw [HVl.out]; exact hlt
        rw [← hz]
        simp [vals, List.getD_eq_getElem?_getD, List.getElem?_eq_getElem hpl]
      have HP2 : Hid (PlacesOk ls (k + 1) (fun t => if nm = t then (k : Int) else f t)) := by
        have h1 := places_next HPt.out.2.2.1 hkl HPk.out
        rw [HT.out] at h1
        exact h1
      have HNl := Lib.hid hnl
      obtain ⟨e0, e3⟩ := HKS.out W5 (World.grownBy.refl _ _)
      clear hfk hyk hmk hzk hc hc0 hp hp0 hfit hnl hpl hnames b5 x5 f5 y5 m5 z5 p5 i5 hparts hv hz hval hpw G5 BS5 hadb BS
      go_upto_region 6 with fail
      rw [← hW5]
      clear hW5 c0 c1 c2 c3 c4 c5 c6
      go_cut [] (fun wx => Filled wx w.heap.size 3 w.heap.size n (vals (vals5 ls xs ys)) (fun q => q < k + 1) ∧ Blk wx w1.heap.size #[.slice (some ⟨w.heap.size, 0, none⟩) n n] 32 ∧ NumS wx (w1.heap.size + 1) k f ∧ Blk wx (w1.heap.size + 1 + 1) #[.map (some (w1.heap.size + 1))] 103 ∧ Blk wx wr.heap.size #[.int .i64 kd, .string nm, .string o, .slice P q d, .int .i64 py, .int .i64 wd, .int .i64 vl] 53 ∧ Hid (w.grownBy wx (some q2)) ∧ Hid (Ins w0.heap.size q2 wx xs ys ls (k + 1)) ∧ w1.heap.size + 3 ≤ wx.heap.size)
      case first =>
        first
          | (go_region_held3 (fun W' => W'.cell? ⟨w1.heap.size, 0, none⟩ = some (.slice (some ⟨w.heap.size, 0, none⟩) n n) ∧ W'.cell? ⟨wr.heap.size, 3, none⟩ = some (.slice P q d)) (first | exact HKS.out _ (grownOf D _) | exact HKS.out _ Gz | exact HKS.out _ (grownOf Bq _) | exact HKS2.out _ _ Gz | go_keep) (first
              | (go_at_call 94; refine (HCl.out _ Bq _ o4.has).mono ?_; rintro e w6 ⟨rfl, i6, g6⟩; have Gz := grownTrans (grownOf Bq (some q2)) g6; obtain ⟨u, hu⟩ := (HFil.out.kept Gz (by simp; omega)).cell hlt; have hfr := (HFil.out.kept Gz (by simp; omega)).free k)
              | (go_at_call 103; refine (HCh.out _ D).mono ?_; rintro e w4 ⟨rfl, o4, b4⟩; have Bq := D.trans (b4.mono D.size))))
          | fail
        all_goals
          have hz6 := Gz.size
          go_wp2_with fail
          go_meet
          exact ⟨(HFil.out.kept Gz (by simp; omega)).put hlt HVz.out (by intro q' _ h; omega), (HYb.out.grown Gz (by simp; omega)).other (by omega) k _, (HMb.out.grown Gz (by simp; omega)).other (by omega) k _, (HZb.out.grown Gz (by simp; omega)).other (by omega) k _, (HXb.out.grown Gz (by simp; omega)).other (by omega) k _, grownNew (grownTrans HG5.out Gz) (Nat.le_refl _) k _, i6.other (by omega) (by omega) k _, by simp; omega⟩
      case rest =>
      obtain ⟨hf6, hy6, hm6, hz6, hx6, B6, i6, s6⟩ := hcut
      obtain ⟨w6, rfl⟩ : ∃ x, x = wc := ⟨_, rfl⟩
      have HM6 := Lib.hid hm6
      have HF6 := Lib.hid hf6
      have HY6 := Lib.hid hy6
      have HZ6 := Lib.hid hz6
      obtain ⟨⟨d0, d1, d2, d3, d4, d5, d6⟩, _⟩ := hx6.seven
      have e6 : w6.cell? ⟨w1.heap.size + 1 + 1, 0, none⟩ = some (.map (some (w1.heap.size + 1))) := hz6.cell (i := 0) rfl
      clear hf6 hy6 hm6 hz6 hx6 e0 e3
      go_wp2_with (at_mapUpdate; refine NumS.put rfl _ _ _ rfl rfl HM6.out (by omega) nm HNl.out rfl k (by omega) rfl ?_; intro w7 hm7 hg7)
      go_roundw
      case rel => exact ⟨k + 1, _, by omega, by go_num, HF6.out.kept hg7 (by simp; omega), HY6.out.grown hg7 (by simp), hm7, HZ6.out.grown hg7 (by simp), HP2, grownMore B6.out hg7 (by omega), i6.out.grown hg7 (by omega) (by omega) hS, by have := hg7.size; omega⟩
      case measure => simp [intOf]; omega
    · obtain rfl : k = n := by omega
      have e0 : wr.cell? ⟨w1.heap.size, 0, none⟩ = some (.slice (some ⟨w.heap.size, 0, none⟩) k k) := hyk.cell (i := 0) rfl
      have HO : Hid (Own wr w.heap.size (some ⟨w.heap.size, 0, none⟩) k k (vals5 ls xs ys)) := ⟨HVl.out, hfk.full (by rw [vals_length, HVl.out]) (by intro q' hq'; exact hq')⟩
      clear hfk hyk hmk hzk
      go_wp2_with fail
      go_ret
      exact ⟨rfl, HO.out, bk.out⟩

end Go.Proofs.YtcbofogmfelpkaaDoor

/- The program's values and results for inputs (valuesByLine, ValuesIn, RunProgram). For lists of at most 1048576 lines and numbers; the forms of the lines and the words of the operations are as start-up lays them. -/
namespace Go.Proofs.YtcbofogmfelpkaaDoor
open Go Go.RowKit Go.Maps
set_option maxRecDepth 100000


set_option maxRecDepth 100000 in
set_option maxHeartbeats 4000000 in
theorem valuesByLine_any (A : Option Addr) (n c : Nat) (ls : List Ln) (Aa : Option Addr) (na ca : Nat) (xs : List Int) (Ab : Option Addr) (nb cb : Nat) (ys : List Int) (w : World) (h : HasL w A n ls) (hn : n ≤ 1048576) (hz : ∀ j, j < n → FitL (lnAt ls j))
    (ha : Has w Aa na xs) (hna : na ≤ ca) (hb : Has w Ab nb ys) (hnb : nb ≤ cb) (hq : askedP ls xs ys = true) (hW : OpWords w) :
    Calls Tryd.prog 65 #[.slice A n c, .agg #[.slice Aa na ca, .slice Ab nb cb]] w fun e w' => ∃ g, e = .returned (.slice (some ⟨g, 0, none⟩) n n) ∧ Own w' w.heap.size (some ⟨g, 0, none⟩) n n (vals5 ls xs ys) ∧ Below w.heap.size w w' := by
  have b1 := belowNew w (.cells #[.slice A n c] 25)
  have y1 := Blk.new w #[.slice A n c] 25
  obtain ⟨W1, hW1⟩ : ∃ W, W = w.alloc (.cells #[.slice A n c] 25) := ⟨_, rfl⟩
  have s1 : W1.heap.size = w.heap.size + 1 := by rw [hW1]; simp
  rw [← hW1] at b1 y1
  have b2 := belowNew W1 (.cells #[.slice Aa na ca, .slice Ab nb cb] 68)
  have y2 := Blk.newAt (k := w.heap.size + 1) W1 #[.slice Aa na ca, .slice Ab nb cb] 68 s1.symm
  have y12 := y1.below' b2
  obtain ⟨W2, hW2⟩ : ∃ W, W = W1.alloc (.cells #[.slice Aa na ca, .slice Ab nb cb] 68) := ⟨_, rfl⟩
  have s2 : W2.heap.size = w.heap.size + 1 + 1 := by rw [hW2]; simp; omega
  rw [← hW2] at b2 y2 y12
  have B2 : Below w.heap.size w W2 := b1.trans (b2.mono (by omega))
  have i2 : Ins w.heap.size (w.heap.size + 1) W2 xs ys ls 0 := ⟨_, _, y2, InLeft.start ha hna B2 (Nat.le_refl _), InLeft.start hb hnb B2 (Nat.le_refl _)⟩
  have HG := asked_yes hq
  have HPt := good_parts HG.1
  have HWb := Lib.hid (widthsByLine_any A n c ls W2 (h.below B2) hn hz HPt.2.1 HPt.2.2.1 (hW.below B2))
  have HPr : Hid (progW ls = widths ls) := HPt.2.2.2.1
  have HBl := Lib.hid (fun (gw : Nat) (W3 : World) (hw : Own W3 W2.heap.size (some ⟨gw, 0, none⟩) n n (progW ls)) (b3 : Below W2.heap.size W2 W3) => byLineV_any w w.heap.size W3.heap.size (w.heap.size + 1) gw n A n c ls xs ys (W3.alloc (.cells #[.slice (some ⟨gw, 0, none⟩) n n] 32)) h
    (B2.trans ((b3.trans ((belowNew W3 (.cells #[.slice (some ⟨gw, 0, none⟩) n n] 32)).mono b3.size)).mono B2.size)) hn hz hq hW
    (((y12.below' b3).below' (belowNew W3 _)).cell (i := 0) rfl) ((Blk.new W3 #[.slice (some ⟨gw, 0, none⟩) n n] 32).cell (i := 0) rfl)
    (fun k hk => by
      have h1 := hw.cells (by omega)
      obtain ⟨g', e, _, hl, hc⟩ := h1
      have e2 : gw = g' := by
        have := Option.some.inj e
        injection this
      rw [← e2] at hc hl
      have h2 := hc k hk
      rw [HPr.out] at h2
      exact cellKept (belowNew W3 _) hl h2)
    ((i2.below b3 (by omega)).below (belowNew W3 _) (by omega)) (by omega) (by have := b3.size; omega) (fun e => by
      by_cases hn0 : 0 < n
      · obtain ⟨g', e', hg', _, _⟩ := hw.cells hn0
        have e2 : gw = g' := by
          have := Option.some.inj e'
          injection this
        omega
      · have h3 := hw.2.lt gw rfl
        omega) (by omega))
  have HB2 := Lib.hid B2
  have e0 : W2.cell? ⟨w.heap.size, 0, none⟩ = some (.slice A n c) := y12.cell (i := 0) rfl
  have HY := Lib.hid y12
  clear h hz ha hb hq hW b1 y1 b2 y2 y12 B2 i2 HG HPt
  go_enter Tryd.func65, Tryd.ntmps65
  go_upto_region 1 with fail
  rw [← hW1, ← hW2]
  clear hW1 hW2
  go_wp2_with fail
  refine (HWb.out).mono ?_
  rintro e w3 ⟨gw, rfl, o3, b3⟩
  have HC := Lib.hid (HBl.out gw w3 o3 b3)
  have b4 := belowNew w3 (.cells #[.slice (some ⟨gw, 0, none⟩) n n] 32)
  have e1 : (w3.alloc (.cells #[.slice (some ⟨gw, 0, none⟩) n n] 32)).cell? ⟨w.heap.size, 0, none⟩ = some (.slice A n c) := ((HY.out.below' b3).below' b4).cell (i := 0) rfl
  have HB4 := Lib.hid (HB2.out.trans ((b3.trans (b4.mono b3.size)).mono HB2.out.size))
  have s4 : w.heap.size ≤ (w3.alloc (.cells #[.slice (some ⟨gw, 0, none⟩) n n] 32)).heap.size := HB4.out.size
  have HS4 := Lib.hid s4
  clear e0 o3 b3 b4 s4
  go_wp2_with fail
  refine (HC.out).mono ?_
  rintro e w5 ⟨rfl, o5, g5⟩
  have HO5 := Lib.hid (o5.mono HS4.out)
  have HB5 : Hid (Below w.heap.size w w5) := HB4.out.grown g5 HS4.out (fun x e => by have := Option.some.inj e; omega)
  clear o5 g5
  go_wp2_with fail
  go_ret
  exact ⟨_, rfl, by simpa using HO5.out, HB5.out⟩

set_option maxRecDepth 100000 in
set_option maxHeartbeats 4000000 in
theorem impl_ValuesIn (A : Option Addr) (n c : Nat) (ls : List Ln) (Aa : Option Addr) (na ca : Nat) (xs : List Int) (Ab : Option Addr) (nb cb : Nat) (ys : List Int) (rs : List Int) (rb : Bool) (w : World) (h : HasL w A n ls) (hn : n ≤ 1048576) (_hnc : n ≤ c) (hz : ∀ j, j < n → FitL (lnAt ls j))
    (ha : Has w Aa na xs) (hna : na ≤ 1048576 ∧ na ≤ ca) (_hNa : NilOk Aa na ca) (hb : Has w Ab nb ys) (hnb : nb ≤ 1048576 ∧ nb ≤ cb) (_hNb : NilOk Ab nb cb) (hF : Forms w) (hW : OpWords w) (hm : m_ValuesIn ls xs ys = (rs, rb)) :
    Calls Tryd.prog 29 #[.slice A n c, .slice Aa na ca, .slice Ab nb cb] w fun e w' => ∃ R m c', e = .returned (.tuple #[.slice R m c', .bool rb]) ∧ Own w' w.heap.size R m c' rs ∧ m ≤ 16777216 ∧ Below w.heap.size w w' := by
  have HG := Lib.hid (implIsProgram_any A n c ls w h hn hz hF hW)
  rw [good_same] at HG
  have HH := Lib.hid h
  have HZ := Lib.hid hz
  have HA := Lib.hid ha
  have HB := Lib.hid hb
  have HM := Lib.hid hm
  have HWo := Lib.hid hW
  obtain ⟨hna1, hna2⟩ := hna
  obtain ⟨hnb1, hnb2⟩ := hnb
  clear h hz ha hb hm hF hW
  obtain ⟨b, hb⟩ : ∃ b, goodP ls = b := ⟨_, rfl⟩
  rw [hb] at HG
  have HGo := Lib.hid hb
  clear hb
  cases b with
  | false =>
    have e := HM.out
    rw [m_ValuesIn, if_neg (by rw [asked_g HGo.out]; simp)] at e
    obtain ⟨rfl, rfl⟩ := Prod.mk.inj e
    clear e
    go_enter Tryd.func29, Tryd.ntmps29
    go_wp2_with fail
    refine (HG.out).mono ?_
    rintro e w2 ⟨rfl, b2⟩
    have HB2 := Lib.hid b2
    clear b2
    go_wp2_with fail
    go_ret2
    exact ⟨none, 0, 0, rfl, Own.nil_ _ _, by omega, HB2.out⟩
  | true =>
    have HPt := Lib.hid (good_parts HGo.out)
    go_enter Tryd.func29, Tryd.ntmps29
    go_wp2_with fail
    refine (HG.out).mono ?_
    rintro e w2 ⟨rfl, b2⟩
    have HB2 := Lib.hid b2
    clear b2
    go_wp2_with fail
    refine (inputWidths_any A n c ls 0 w2 (HH.out.below HB2.out) hn).mono ?_
    rintro e w3 ⟨R3, m3, c3, rfl, o3, hm3, b3⟩
    have HB3 := Lib.hid (HB2.out.trans (b3.mono HB2.out.size))
    have HO3 := Lib.hid o3.has
    clear o3 b3
    obtain ⟨f0, hf0⟩ : ∃ b, fitB (inputsOf 0 ls) xs = b := ⟨_, rfl⟩
    have HF0 := Lib.hid hf0
    clear hf0
    go_wp2_with fail
    refine (areWithin_any R3 m3 c3 (inputsOf 0 ls) Aa na ca xs f0 w3 HO3.out (HA.out.below HB3.out) (by omega) hna1 (fun k _ => inputs_10 HPt.out.2.1 0 k) HF0.out).mono ?_
    rintro e w4 ⟨rfl, rfl⟩
    cases f0 with
    | false =>
      have e := HM.out
      rw [m_ValuesIn, if_neg (by rw [asked_a HF0.out]; simp)] at e
      obtain ⟨rfl, rfl⟩ := Prod.mk.inj e
      clear e
      go_wp2_with fail
      go_ret2
      exact ⟨none, 0, 0, rfl, Own.nil_ _ _, by omega, HB3.out⟩
    | true =>
      go_wp2_with fail
      refine (inputWidths_any A n c ls 1 w3 (HH.out.below HB3.out) hn).mono ?_
      rintro e w5 ⟨R5, m5, c5, rfl, o5, hm5, b5⟩
      have HB5 := Lib.hid (HB3.out.trans (b5.mono HB3.out.size))
      have HO5 := Lib.hid o5.has
      clear o5 b5
      obtain ⟨f1, hf1⟩ : ∃ b, fitB (inputsOf 1 ls) ys = b := ⟨_, rfl⟩
      have HF1 := Lib.hid hf1
      clear hf1
      go_wp2_with fail
      refine (areWithin_any R5 m5 c5 (inputsOf 1 ls) Ab nb cb ys f1 w5 HO5.out (HB.out.below HB5.out) (by omega) hnb1 (fun k _ => inputs_10 HPt.out.2.1 1 k) HF1.out).mono ?_
      rintro e w6 ⟨rfl, rfl⟩
      cases f1 with
      | false =>
        have e := HM.out
        rw [m_ValuesIn, if_neg (by rw [asked_b HF1.out]; simp)] at e
        obtain ⟨rfl, rfl⟩ := Prod.mk.inj e
        clear e
        go_wp2_with fail
        go_ret2
        exact ⟨none, 0, 0, rfl, Own.nil_ _ _, by omega, HB5.out⟩
      | true =>
        have hask : askedP ls xs ys = true := by rw [askedP, HGo.out, HF0.out, HF1.out]; rfl
        have e := HM.out
        rw [m_ValuesIn, if_pos hask] at e
        obtain ⟨e1, rfl⟩ := Prod.mk.inj e
        have HR := Lib.hid e1
        have HAk := Lib.hid hask
        clear e e1 hask
        go_wp2_with fail
        refine (valuesByLine_any A n c ls Aa na ca xs Ab nb cb ys w5 (HH.out.below HB5.out) hn HZ.out (HA.out.below HB5.out) hna2 (HB.out.below HB5.out) hnb2 HAk.out (HWo.out.below HB5.out)).mono ?_
        rintro e w7 ⟨g7, rfl, o7, b7⟩
        have HB7 := Lib.hid (HB5.out.trans (b7.mono HB5.out.size))
        have HO7 := Lib.hid (o7.mono HB5.out.size)
        clear o7 b7
        go_wp2_with fail
        go_ret2
        exact ⟨_, n, n, rfl, by rw [← HR.out]; exact HO7.out, by omega, HB7.out⟩

set_option maxRecDepth 100000 in
set_option maxHeartbeats 2000000 in
theorem impl_RunProgram (A : Option Addr) (n c : Nat) (ls : List Ln) (Aa : Option Addr) (na ca : Nat) (xs : List Int) (Ab : Option Addr) (nb cb : Nat) (ys : List Int) (rs : List Int) (rb : Bool) (w : World) (h : HasL w A n ls) (hn : n ≤ 1048576) (hnc : n ≤ c) (hz : ∀ j, j < n → FitL (lnAt ls j))
    (ha : Has w Aa na xs) (hna : na ≤ 1048576 ∧ na ≤ ca) (hNa : NilOk Aa na ca) (hb : Has w Ab nb ys) (hnb : nb ≤ 1048576 ∧ nb ≤ cb) (hNb : NilOk Ab nb cb) (hF : Forms w) (hW : OpWords w) (hm : m_RunProgram ls xs ys = (rs, rb)) :
    Calls Tryd.prog 31 #[.slice A n c, .slice Aa na ca, .slice Ab nb cb] w fun e w' => ∃ R m c', e = .returned (.tuple #[.slice R m c', .bool rb]) ∧ Own w' w.heap.size R m c' rs ∧ m ≤ 16777216 ∧ Below w.heap.size w w' := by
  obtain ⟨b, hb2⟩ : ∃ b, askedP ls xs ys = b := ⟨_, rfl⟩
  have HGo := Lib.hid hb2
  have HH := Lib.hid h
  have HL : Hid (ls.length = n) := h.1
  have HM := Lib.hid hm
  cases b with
  | false =>
    have HV := Lib.hid (impl_ValuesIn A n c ls Aa na ca xs Ab nb cb ys [] false w h hn hnc hz ha hna hNa hb hnb hNb hF hW (by rw [m_ValuesIn, if_neg (by rw [hb2]; simp)]))
    have e := HM.out
    rw [m_RunProgram, if_neg (by rw [HGo.out]; simp)] at e
    obtain ⟨rfl, rfl⟩ := Prod.mk.inj e
    clear e h hz ha hb hm hF hW hb2 hNa hNb hna hnb
    go_enter Tryd.func31, Tryd.ntmps31
    go_wp2_with fail
    refine (HV.out).mono ?_
    rintro e w2 ⟨R2, m2, c2, rfl, o2, _, b2⟩
    have HB2 := Lib.hid b2
    clear b2 o2
    go_wp2_with fail
    go_ret2
    exact ⟨none, 0, 0, rfl, Own.nil_ _ _, by omega, HB2.out⟩
  | true =>
    have HV := Lib.hid (impl_ValuesIn A n c ls Aa na ca xs Ab nb cb ys (vals5 ls xs ys) true w h hn hnc hz ha hna hNa hb hnb hNb hF hW (by rw [m_ValuesIn, if_pos hb2]))
    have e := HM.out
    rw [m_RunProgram, if_pos HGo.out] at e
    obtain ⟨e1, rfl⟩ := Prod.mk.inj e
    have HR := Lib.hid e1
    clear e e1 h hz ha hb hm hF hW hb2 hNa hNb hna hnb
    go_enter Tryd.func31, Tryd.ntmps31
    go_wp2_with fail
    refine (HV.out).mono ?_
    rintro e w2 ⟨R2, m2, c2, rfl, o2, _, b2⟩
    have HB2 := Lib.hid b2
    have hm2 : m2 = n := by have h1 := o2.1; have h2 := valsTo_length ls xs ys ls.length; rw [← h1, ← HL.out]; exact h2
    subst hm2
    have HO2 := Lib.hid o2.has
    clear b2 o2
    go_wp2_with fail
    refine (atLinesOut_any A m2 c ls R2 c2 (vals5 ls xs ys) w2 (HH.out.below HB2.out) hn HO2.out).mono ?_
    rintro e w4 ⟨R4, m4, c4, rfl, o4, hm4, b4⟩
    have HB4 := Lib.hid (HB2.out.trans (b4.mono HB2.out.size))
    have HO := Lib.hid (o4.mono HB2.out.size)
    clear o4 b4
    go_wp2_with fail
    go_ret2
    exact ⟨R4, m4, c4, rfl, by rw [← HR.out]; exact HO.out, by omega, HB4.out⟩

end Go.Proofs.YtcbofogmfelpkaaDoor
