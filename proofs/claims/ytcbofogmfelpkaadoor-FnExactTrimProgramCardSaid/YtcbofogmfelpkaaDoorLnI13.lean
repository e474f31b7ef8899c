/- The widths of the lines one after another, the program's (widthsByLine). For lists of at most 1048576 lines that are lines by themselves and whose names are given before. -/
import Derived.Test.YtcbofogmfelpkaaDoorLnI12
namespace Go.Proofs.YtcbofogmfelpkaaDoor
open Go Go.RowKit Go.Maps
set_option maxRecDepth 100000

/-- The program's widths of the first k lines. -/
def progTo (ls : List Ln) : Nat → List Int
  | 0 => []
  | k + 1 => progTo ls k ++ [pWidth (lnAt ls k).kind (lnAt ls k).width (lnAt ls k).op (partWs (ls.take k) (progTo ls k) (lnAt ls k).parts)]
def progW (ls : List Ln) : List Int := progTo ls ls.length
theorem progTo_length (ls : List Ln) : ∀ k, (progTo ls k).length = k
  | 0 => rfl
  | k + 1 => by simp [progTo, progTo_length ls k]

set_option maxRecDepth 100000 in
set_option maxHeartbeats 1000000 in
theorem widths1_any (q0 : Nat) (A : Option Addr) (n c : Nat) (ls : List Ln) (k g q cU : Nat) (zs : List Int) (w : World) (hq0 : w.cell? ⟨q0, 0, none⟩ = some (.slice A n c)) (h : HasL w A n ls) (hk : k < n) (hl : lineOk (lnAt ls k) = true) (hkd : (lnAt ls k).kind ≠ 0) (hq : q = (lnAt ls k).parts.length) (hqc : q ≤ cU)
    (hu : Has w (some ⟨g, 0, none⟩) q zs) (hz : ∀ j, 0 ≤ zs.getD j 0 ∧ zs.getD j 0 ≤ 10) (hW : OpWords w) :
    Calls Tryd.prog 83 #[.int .i64 (k : Int), .slice (some ⟨g, 0, none⟩) q cU, .pointer (some ⟨q0, 0, none⟩)] w
      fun e w' => e = .returned (.int .i64 (pWidth (lnAt ls k).kind (lnAt ls k).width (lnAt ls k).op zs)) ∧ Below w.heap.size w w' := by
  obtain ⟨ad, kd, nm, o, ps, py, wd, vl, P, m, d, rfl, hc, hp, _, _, HT⟩ := h.line hk
  obtain ⟨c0, c1, c2, c3, c4, c5, c6⟩ := hc.cells
  rw [HT.out] at hl hkd hq ⊢
  simp only at hkd hq ⊢
  rw [lineOk, Bool.and_eq_true, decide_eq_true_eq] at hl
  obtain ⟨⟨⟨l1, l2⟩, l3⟩, _⟩ := hl
  simp only at l1 l2 l3
  have HC := Lib.hid (fun W (hb : Below w.heap.size w W) => lineWidth_any kd nm o P m d py wd vl g q cU zs W ⟨by omega, by omega⟩ (by rw [hq]; exact l3) hqc (hu.below hb) hz (hW.below hb))
  have k0 : (0 : Int) ≤ (k : Int) := by omega
  have k1 : (k : Int) < (n : Int) := by omega
  clear hc hp hu hz hW l1 l2 l3 hkd hq h HT
  go_enter Tryd.func83, Tryd.ntmps83
  go_wp2_with fail
  refine (HC.out _ (Below.refl _ _)).mono ?_
  rintro e w2 ⟨rfl, b2⟩
  go_wp2_with fail
  go_ret
  exact ⟨rfl, b2⟩

end Go.Proofs.YtcbofogmfelpkaaDoor
