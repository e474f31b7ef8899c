/- The program's width of a line, given the widths of its parts (opWidth, lineWidth). For widths of 0 to 10. The words of the operations are as start-up lays them. -/
import Derived.Test.YtcbofogmfelpkaaDoorLnI7
namespace Go.Proofs.YtcbofogmfelpkaaDoor
open Go Go.RowKit Go.Shelf
set_option maxRecDepth 100000

theorem retIL {a b : Int} (h : a = b) : Ending.returned (.int .i64 a) = Ending.returned (.int .i64 b) := by rw [h]
theorem OpWords.drewN {w : World} {k : Nat} (h : OpWords w) : OpWords (w.drewN k) := fun j hj => by have h1 := h j hj; simpa using h1
theorem addL (g i j : Nat) : Addr.add ⟨g, i, none⟩ j = ⟨g, i + j, none⟩ := by simp [Addr.add]

def opW (j a : Int) : Int := if j = 2 then (if 10 < 2 * a then 0 else 2 * a) else if j = 3 ∨ j = 4 then 1 else a
set_option maxHeartbeats 1000000 in
theorem opWidth_any (j a : Int) (w : World) (ha : 0 ≤ a) (hb : a ≤ 10) :
    Calls Tryd.prog 105 #[.int .i64 j, .int .i64 a] w fun e w' => e = .returned (.int .i64 (opW j a)) ∧ w = w' := by
  by_cases h2 : j = 2
  · subst h2
    have x1 : IntKind.i64.wrap (2 * a) = 2 * a := by rw [IntKind.wrap_i64]; omega
    by_cases h10 : 10 < 2 * a
    · have HF : Hid (opW 2 a = 0) := by show _ = _; simp [opW, h10]
      go_enter Tryd.func105, Tryd.ntmps105
      go_wp2_with fail
      go_ret
      exact ⟨retIL HF.out.symm, rfl⟩
    · have HF : Hid (opW 2 a = 2 * a) := by show _ = _; simp [opW, h10]
      go_enter Tryd.func105, Tryd.ntmps105
      go_wp2_with fail
      go_ret
      exact ⟨retIL HF.out.symm, rfl⟩
  · by_cases h3 : j = 3
    · subst h3
      go_enter Tryd.func105, Tryd.ntmps105
      go_wp2_with fail
      go_ret
      exact ⟨rfl, rfl⟩
    · by_cases h4 : j = 4
      · subst h4
        go_enter Tryd.func105, Tryd.ntmps105
        go_wp2_with fail
        go_ret
        exact ⟨rfl, rfl⟩
      · have HF : Hid (opW j a = a) := by show _ = _; simp [opW, h2, h3, h4]
        go_enter Tryd.func105, Tryd.ntmps105
        go_wp2_with fail
        go_ret
        exact ⟨retIL HF.out.symm, rfl⟩

def pWidth (kd wd : Int) (o : ByteArray) (zs : List Int) : Int :=
  if kd = 1 ∨ kd = 2 then wd
  else if kd = 3 then (if zs.getD 0 0 = zs.getD 1 0 then opW (opIx o) (zs.getD 0 0) else 0)
  else if kd = 5 then (if zs.getD 0 0 = 1 ∧ zs.getD 1 0 = zs.getD 2 0 then zs.getD 1 0 else 0)
  else zs.getD 0 0

set_option maxRecDepth 100000 in
set_option maxHeartbeats 4000000 in
theorem lineWidth_any (kd : Int) (nm o : ByteArray) (P : Option Addr) (m d : Nat) (py wd vl : Int) (g q cU : Nat) (zs : List Int) (w : World) (hk : 1 ≤ kd ∧ kd ≤ 6) (hq : (q : Int) = partsK kd) (hqc : q ≤ cU) (h : Has w (some ⟨g, 0, none⟩) q zs) (hz : ∀ j, 0 ≤ zs.getD j 0 ∧ zs.getD j 0 ≤ 10) (hW : OpWords w) :
    Calls Tryd.prog 84 #[.agg #[.int .i64 kd, .string nm, .string o, .slice P m d, .int .i64 py, .int .i64 wd, .int .i64 vl], .slice (some ⟨g, 0, none⟩) q cU] w fun e w' => e = .returned (.int .i64 (pWidth kd wd o zs)) ∧ Below w.heap.size w w' := by
  have b1 := belowNew w (.cells #[.int .i64 kd, .string nm, .string o, .slice P m d, .int .i64 py, .int .i64 wd, .int .i64 vl] 53)
  have y1 := Blk.new w #[.int .i64 kd, .string nm, .string o, .slice P m d, .int .i64 py, .int .i64 wd, .int .i64 vl] 53
  have h1 := h.below b1
  have hW1 := hW.below b1
  obtain ⟨W1, hW1e⟩ : ∃ W, W = w.alloc (.cells #[.int .i64 kd, .string nm, .string o, .slice P m d, .int .i64 py, .int .i64 wd, .int .i64 vl] 53) := ⟨_, rfl⟩
  rw [← hW1e] at b1 y1 h1 hW1
  obtain ⟨⟨k0, k1, k2, k3, k4, k5, k6⟩, _⟩ := y1.seven
  have HB1 := Lib.hid b1
  have HWd := Lib.hid hW1
  have HO : Hid (∀ W, OpWords W → Calls Tryd.prog 72 #[.string o] W fun e w' => e = .returned (.int .i64 (opIx o : Int)) ∧ w' = W) :=
    fun W hw => (opOf_any o W hw).mono fun _ _ ⟨h1, h2⟩ => ⟨h1, h2.symm⟩
  clear h hW hW1 b1 y1
  rcases (by omega : kd = 1 ∨ kd = 2 ∨ kd = 3 ∨ kd = 4 ∨ kd = 5 ∨ kd = 6) with rfl | rfl | rfl | rfl | rfl | rfl
  · go_enter Tryd.func84, Tryd.ntmps84
    go_upto_region 1 with fail
    rw [← hW1e]
    clear hW1e
    go_wp2_with fail
    go_ret
    exact ⟨rfl, HB1.out⟩
  · go_enter Tryd.func84, Tryd.ntmps84
    go_upto_region 1 with fail
    rw [← hW1e]
    clear hW1e
    go_wp2_with fail
    go_ret
    exact ⟨rfl, HB1.out⟩
  · obtain rfl : q = 2 := by have h : (q : Int) = 2 := hq; omega
    obtain ⟨ad0, x, e0, c0, H0⟩ := h1.elem (k := 0) (by omega)
    obtain rfl : ad0 = ⟨g, 0, none⟩ := (Option.some.inj e0).symm
    rw [addL] at c0
    obtain ⟨ad1, y, e1, c1, H1⟩ := h1.elem (k := 1) (by omega)
    obtain rfl : ad1 = ⟨g, 0, none⟩ := (Option.some.inj e1).symm
    rw [addL] at c1
    have r0 := hz 0
    rw [← H0.out] at r0
    obtain ⟨r0a, r0b⟩ := r0
    have HP : Hid (∀ W, Calls Tryd.prog 105 #[.int .i64 (opIx o : Int), .int .i64 x] W fun e w' => e = .returned (.int .i64 (opW (opIx o) x)) ∧ w' = W) :=
      fun W => (opWidth_any (opIx o) x W r0a r0b).mono fun _ _ ⟨h1, h2⟩ => ⟨h1, h2.symm⟩
    have hqc0 : (0 : Int) < ((2 : Nat) : Int) := by omega
    by_cases hxy : x = y
    · have HF : Hid (pWidth 3 wd o zs = opW (opIx o) x) := by show _ = _; unfold pWidth; rw [← H0.out, ← H1.out, if_neg (by omega), if_pos rfl, if_pos hxy]
      subst hxy
      obtain ⟨j, hj⟩ : ∃ j : Int, (opIx o : Int) = j := ⟨_, rfl⟩
      rw [hj] at HO HP HF
      obtain ⟨u, hu⟩ : ∃ u : Int, opW j x = u := ⟨_, rfl⟩
      rw [hu] at HP HF
      clear hj hu hz h1 H0 H1 e0 e1
      go_enter Tryd.func84, Tryd.ntmps84
      go_upto_region 1 with fail
      rw [← hW1e]
      clear hW1e
      go_wp2_with fail
      go_quiet (fail)
      go_wp2_with fail
      go_quiet (first | (go_at_call 72; exact (HO.out _ (OpWords.drewN HWd.out)).mono fun _ _ ⟨h1, h2⟩ => ⟨h1, _, h2⟩) | (go_at_call 105; exact (HP.out _).mono fun _ _ ⟨h1, h2⟩ => ⟨h1, _, h2⟩))
      go_wp2_with fail
      go_ret
      exact ⟨retIL HF.out.symm, below_drewN (below_drewN HB1.out _) _⟩
    · have HF : Hid (pWidth 3 wd o zs = 0) := by show _ = _; unfold pWidth; rw [← H0.out, ← H1.out, if_neg (by omega), if_pos rfl, if_neg hxy]
      clear HO HP hz h1 H0 H1 e0 e1
      go_enter Tryd.func84, Tryd.ntmps84
      go_upto_region 1 with fail
      rw [← hW1e]
      clear hW1e
      go_wp2_with fail
      go_quiet (fail)
      go_wp2_with fail
      go_ret
      exact ⟨retIL HF.out.symm, below_drewN HB1.out _⟩
  · obtain rfl : q = 1 := by have h : (q : Int) = 1 := hq; omega
    obtain ⟨ad0, x, e0, c0, H0⟩ := h1.elem (k := 0) (by omega)
    obtain rfl : ad0 = ⟨g, 0, none⟩ := (Option.some.inj e0).symm
    rw [addL] at c0
    have HF : Hid (pWidth 4 wd o zs = x) := by show _ = _; unfold pWidth; rw [← H0.out, if_neg (by omega), if_neg (by omega), if_neg (by omega)]
    clear HO hz h1 H0 e0
    go_enter Tryd.func84, Tryd.ntmps84
    go_upto_region 1 with fail
    rw [← hW1e]
    clear hW1e
    go_wp2_with fail
    go_ret
    exact ⟨retIL HF.out.symm, HB1.out⟩
  · obtain rfl : q = 3 := by have h : (q : Int) = 3 := hq; omega
    obtain ⟨ad0, x, e0, c0, H0⟩ := h1.elem (k := 0) (by omega)
    obtain rfl : ad0 = ⟨g, 0, none⟩ := (Option.some.inj e0).symm
    rw [addL] at c0
    obtain ⟨ad1, y, e1, c1, H1⟩ := h1.elem (k := 1) (by omega)
    obtain rfl : ad1 = ⟨g, 0, none⟩ := (Option.some.inj e1).symm
    rw [addL] at c1
    obtain ⟨ad2, z, e2, c2, H2⟩ := h1.elem (k := 2) (by omega)
    obtain rfl : ad2 = ⟨g, 0, none⟩ := (Option.some.inj e2).symm
    rw [addL] at c2
    by_cases hx1 : x = 1
    · by_cases hyz : y = z
      · have HF : Hid (pWidth 5 wd o zs = y) := by show _ = _; unfold pWidth; rw [← H0.out, ← H1.out, ← H2.out, if_neg (by omega), if_neg (by omega), if_pos rfl, if_pos ⟨hx1, hyz⟩]
        subst hx1 hyz
        clear HO hz h1 H0 H1 H2 e0 e1 e2
        go_enter Tryd.func84, Tryd.ntmps84
        go_upto_region 1 with fail
        rw [← hW1e]
        clear hW1e
        go_wp2_with fail
        go_quiet (fail)
        go_wp2_with fail
        go_ret
        exact ⟨retIL HF.out.symm, below_drewN HB1.out _⟩
      · have HF : Hid (pWidth 5 wd o zs = 0) := by show _ = _; unfold pWidth; rw [← H0.out, ← H1.out, ← H2.out, if_neg (by omega), if_neg (by omega), if_pos rfl, if_neg (fun h => hyz h.2)]
        subst hx1
        clear HO hz h1 H0 H1 H2 e0 e1 e2
        go_enter Tryd.func84, Tryd.ntmps84
        go_upto_region 1 with fail
        rw [← hW1e]
        clear hW1e
        go_wp2_with fail
        go_quiet (fail)
        go_wp2_with fail
        go_ret
        exact ⟨retIL HF.out.symm, below_drewN HB1.out _⟩
    · have HF : Hid (pWidth 5 wd o zs = 0) := by show _ = _; unfold pWidth; rw [← H0.out, if_neg (by omega), if_neg (by omega), if_pos rfl, if_neg (fun h => hx1 h.1)]
      have hx2 : (x == 1) = false := by simpa using hx1
      have hx3 : decide (x = 1) = false := by simpa using hx1
      clear HO hz h1 H0 H1 H2 e0 e1 e2
      go_enter Tryd.func84, Tryd.ntmps84
      go_upto_region 1 with fail
      rw [← hW1e]
      clear hW1e
      go_wp2_with fail
      go_quiet (fail)
      go_wp2_with fail
      go_ret
      exact ⟨retIL HF.out.symm, below_drewN HB1.out _⟩
  · obtain rfl : q = 1 := by have h : (q : Int) = 1 := hq; omega
    obtain ⟨ad0, x, e0, c0, H0⟩ := h1.elem (k := 0) (by omega)
    obtain rfl : ad0 = ⟨g, 0, none⟩ := (Option.some.inj e0).symm
    rw [addL] at c0
    have HF : Hid (pWidth 6 wd o zs = x) := by show _ = _; unfold pWidth; rw [← H0.out, if_neg (by omega), if_neg (by omega), if_neg (by omega)]
    clear HO hz h1 H0 e0
    go_enter Tryd.func84, Tryd.ntmps84
    go_upto_region 1 with fail
    rw [← hW1e]
    clear hW1e
    go_wp2_with fail
    go_ret
    exact ⟨retIL HF.out.symm, HB1.out⟩

end Go.Proofs.YtcbofogmfelpkaaDoor
