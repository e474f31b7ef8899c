/- The model's functions on lists of lines: the place of a name, inputs, sums. For lists of at most 16777216 lines. -/
import Derived.Test.YtcbofogmfelpkaaDoorLnG1
import Derived.Test.YtcbofogmfelpkaaDoorLn3
import Derived.Deep.DeepCutAuto
namespace Go.Proofs.YtcbofogmfelpkaaDoor
open Go Go.RowKit
set_option maxRecDepth 100000

/-- The element with a letter for each field. -/
theorem HasL.line {w : World} {A : Option Addr} {n k : Nat} {ls : List Ln} (h : HasL w A n ls) (hk : k < n) : ∃ (ad : Addr) (kd : Int) (nm o : ByteArray) (ps : List ByteArray) (py wd vl : Int) (P : Option Addr) (m d : Nat), A = some ad ∧ LnAt w (ad.add (k * 7)) ⟨kd, nm, o, ps, py, wd, vl⟩ P m d ∧ HasS w P m ps ∧ m ≤ d ∧ NilOk P m d ∧ Hid (lnAt ls k = ⟨kd, nm, o, ps, py, wd, vl⟩) := by
  obtain ⟨ad, x, P, m, d, e, h1, h2, h3, h4, h5⟩ := h.elem hk
  obtain ⟨kd, nm, o, ps, py, wd, vl⟩ := x
  exact ⟨ad, kd, nm, o, ps, py, wd, vl, P, m, d, e, h1, h2, h3, h4, h5⟩
theorem LnAt.cells {w : World} {a : Addr} {kd : Int} {nm o : ByteArray} {ps : List ByteArray} {py wd vl : Int} {P : Option Addr} {m d : Nat} (h : LnAt w a ⟨kd, nm, o, ps, py, wd, vl⟩ P m d) :
    w.cell? a = some (.int .i64 kd) ∧ w.cell? ⟨a.block, a.off + 1, none⟩ = some (.string nm) ∧ w.cell? ⟨a.block, a.off + 2, none⟩ = some (.string o) ∧ w.cell? ⟨a.block, a.off + 3, none⟩ = some (.slice P m d) ∧ w.cell? ⟨a.block, a.off + 4, none⟩ = some (.int .i64 py) ∧ w.cell? ⟨a.block, a.off + 5, none⟩ = some (.int .i64 wd) ∧ w.cell? ⟨a.block, a.off + 6, none⟩ = some (.int .i64 vl) :=
  ⟨h.c0, h.c1, h.c2, h.c3, h.c4, h.c5, h.c6⟩

set_option maxRecDepth 100000 in
set_option maxHeartbeats 2000000 in
theorem laFind_any (A : Option Addr) (n c : Nat) (ls : List Ln) (name : ByteArray) (w : World) (h : HasL w A n ls) (hn : n ≤ 16777216) :
    Calls Tryd.prog 53 #[.slice A n c, .string name] w fun e w' => e = .returned (.int .i64 (findL ls name)) ∧ Below w.heap.size w w' := by
  have HH := Lib.hid h
  have HL : Hid (ls.length = n) := h.1
  have HA0 : Hid (∀ j, j < 0 → gives name (lnAt ls j) = false) := fun j hj => absurd hj (Nat.not_lt_zero _)
  have HB := Lib.hid (Below.refl w.heap.size w)
  clear h
  go_enter Tryd.func53, Tryd.ntmps53
  go_wp2_with fail
  go_loopw [9] (fun i wr => ∃ k : Nat, k ≤ n ∧ i = .int .i64 k ∧ Hid (∀ j, j < k → gives name (lnAt ls j) = false) ∧ Below w.heap.size w wr) (fun i _ => n - (intOf i).toNat)
  case atStart => exact ⟨0, Nat.zero_le _, rfl, HA0, HB.out⟩
  case round =>
    obtain ⟨k, hk, rfl, HA, bk⟩ := hrel
    by_cases hlt : k < n
    · obtain ⟨ad, kd, nm, o, ps, py, wd, vl, P, m, d, rfl, hc, _, _, _, HT⟩ := (HH.out.below bk).line hlt
      obtain ⟨c0, c1, c2, c3, c4, c5, c6⟩ := hc.cells
      have k0 : (0 : Int) ≤ (k : Int) := by omega
      have k1 : (k : Int) < (n : Int) := by omega
      have HB2 : Hid (Below w.heap.size w (wr.alloc (.cells #[.int .i64 kd, .string nm, .string o, .slice P m d, .int .i64 py, .int .i64 wd, .int .i64 vl] 53))) := bk.trans ((belowNew wr _).mono bk.size)
      have next : gives name (lnAt ls k) = false → ∀ j, j < k + 1 → gives name (lnAt ls j) = false := fun h j hj => by
        by_cases e : j < k
        · exact HA.out j e
        · obtain rfl : j = k := by omega
          exact h
      have HNext := Lib.hid next
      clear hc next
      by_cases hk6 : kd = 6
      · subst hk6
        have HA2 : Hid (∀ j, j < k + 1 → gives name (lnAt ls j) = false) := HNext.out (by rw [HT.out]; simp [gives])
        go_wp2_with fail
        go_roundw
        case rel => exact ⟨k + 1, by omega, by go_num, HA2, HB2.out⟩
        case measure => simp [intOf]; omega
      · obtain ⟨q, hq⟩ : ∃ q, same nm name = q := ⟨_, rfl⟩
        have hq' : (nm.toList == name.toList) = q := hq
        have q6 : (kd == 6) = false := by simpa using hk6
        have q6' : (kd != 6) = true := by simpa using hk6
        have HG : Hid (gives name (lnAt ls k) = q) := by
          show _ = _
          rw [HT.out, gives, hq]
          simp [hk6]
        clear hq hk6
        cases q with
        | true =>
          have HF : Hid (findL ls name = (k : Int)) := findL_hit (by rw [HL.out]; exact hlt) HG.out HA.out
          go_wp2_with fail
          go_ret
          exact ⟨retI HF.out.symm, HB2.out⟩
        | false =>
          have HA2 : Hid (∀ j, j < k + 1 → gives name (lnAt ls j) = false) := HNext.out HG.out
          go_wp2_with fail
          go_roundw
          case rel => exact ⟨k + 1, by omega, by go_num, HA2, HB2.out⟩
          case measure => simp [intOf]; omega
    · obtain rfl : k = n := by omega
      have HF : Hid (findL ls name = -1) := findL_none fun j hj => HA.out j (by rw [HL.out] at hj; exact hj)
      go_wp2_with fail
      go_ret
      exact ⟨retI HF.out.symm, bk⟩

/-! ## sums -/
def lsumTo (zs : List Int) : Nat → Int
  | 0 => 0
  | k + 1 => lsumTo zs k + zs.getD k 0
theorem lsumTo_eq (zs : List Int) : ∀ k, k ≤ zs.length → lsumTo zs k = (zs.take k).sum
  | 0, _ => by simp [lsumTo]
  | k + 1, h => by
    rw [lsumTo, lsumTo_eq zs k (by omega), List.take_add_one, List.getElem?_eq_getElem (by omega), Option.toList_some, List.sum_append]
    simp [List.getD_eq_getElem?_getD, List.getElem?_eq_getElem (show k < zs.length by omega)]
theorem lsumTo_all (zs : List Int) : lsumTo zs zs.length = zs.sum := by rw [lsumTo_eq zs _ (Nat.le_refl _), List.take_length]
theorem lsumTo_range {zs : List Int} {b : Int} (h : ∀ k, 0 ≤ zs.getD k 0 ∧ zs.getD k 0 ≤ b) : ∀ k : Nat, 0 ≤ lsumTo zs k ∧ lsumTo zs k ≤ b * k
  | 0 => by simp [lsumTo]
  | k + 1 => by
    have := lsumTo_range h k
    have := h k
    rw [lsumTo, Int.natCast_add, Int.mul_add]
    omega

set_option maxHeartbeats 1000000 in
theorem laSum_any (A : Option Addr) (n c : Nat) (zs : List Int) (w : World) (h : Has w A n zs) (hn : n ≤ 16777216) (hz : ∀ k, 0 ≤ zs.getD k 0 ∧ zs.getD k 0 ≤ 1000) :
    Calls Tryd.prog 75 #[.slice A n c] w fun e w' => e = .returned (.int .i64 zs.sum) ∧ w = w' := by
  have HH := Lib.hid h
  have HL : Hid (zs.length = n) := h.1
  have HZ := Lib.hid hz
  clear h hz
  go_enter Tryd.func75, Tryd.ntmps75
  go_wp2_with fail
  go_loop [3, 8] (fun q i => ∃ k : Nat, k ≤ n ∧ i = .int .i64 k ∧ q = .int .i64 (lsumTo zs k)) (fun _ i => n - (intOf i).toNat)
  case atStart => exact ⟨0, Nat.zero_le _, rfl, rfl⟩
  case round =>
    obtain ⟨k, hk, rfl, rfl⟩ := hrel
    have hs := lsumTo_range HZ.out k
    by_cases hlt : k < n
    · obtain ⟨ad, z, rfl, hc, HE⟩ := HH.out.elem hlt
      have hr := HZ.out k
      rw [← HE.out] at hr
      have HS : Hid (lsumTo zs (k + 1) = lsumTo zs k + z) := by show _ = _; rw [lsumTo, HE.out]
      obtain ⟨y, hy⟩ : ∃ y, lsumTo zs k = y := ⟨_, rfl⟩
      rw [hy] at hs HS ⊢
      obtain ⟨s0, s1⟩ := hs
      obtain ⟨r0, r1⟩ := hr
      have hw1 : IntKind.i64.wrap (y + z) = y + z := wrapIn (by omega) (by omega)
      have k0 : (0 : Int) ≤ (k : Int) := by omega
      have k1 : (k : Int) < (n : Int) := by omega
      clear hy
      go_wp2_with fail
      go_round
      case rel => exact ⟨k + 1, by omega, by go_num, by rw [HS.out]⟩
      case measure => simp [intOf]; omega
    · obtain rfl : k = n := by omega
      have HF : Hid (lsumTo zs k = zs.sum) := by show _ = _; rw [← HL.out, lsumTo_all]
      clear hs
      go_wp2_with fail
      go_ret
      exact ⟨retI HF.out, rfl⟩

/-! ## inputs -/
theorem inputsOf_step (p : Int) (ls : List Ln) (k : Nat) (h : k < ls.length) : inputsOf p (ls.take (k + 1)) = inputsOf p (ls.take k) ++ (if (lnAt ls k).kind = 1 ∧ (lnAt ls k).party = p then [(lnAt ls k).width] else []) := by
  have e : ls.take (k + 1) = ls.take k ++ [lnAt ls k] := by
    rw [List.take_add_one, List.getElem?_eq_getElem h]
    simp [lnAt, List.getD_eq_getElem?_getD, List.getElem?_eq_getElem h]
  rw [e, inputsOf, List.filter_append, List.map_append]
  congr 1
  by_cases hc : (lnAt ls k).kind = 1 ∧ (lnAt ls k).party = p
  · rw [if_pos hc]; simp [hc.1, hc.2]
  · rw [if_neg hc]; simp [hc]
theorem inputsOf_len (p : Int) (ls : List Ln) : (inputsOf p ls).length ≤ ls.length := by
  rw [inputsOf, List.length_map]
  exact List.length_filter_le _ _

set_option maxRecDepth 100000 in
set_option maxHeartbeats 2000000 in
theorem laInputs_any (A : Option Addr) (n c : Nat) (ls : List Ln) (p : Int) (w : World) (h : HasL w A n ls) (hn : n ≤ 16777216) :
    Calls Tryd.prog 57 #[.slice A n c, .int .i64 p] w fun e w' => ∃ R m c', e = .returned (.slice R m c') ∧ Own w' w.heap.size R m c' (inputsOf p ls) ∧ m ≤ n ∧ Below w.heap.size w w' := by
  have HH := Lib.hid h
  have HL : Hid (ls.length = n) := h.1
  have HB := Lib.hid (Below.refl w.heap.size w)
  have HO : Hid (Own w w.heap.size none 0 0 (inputsOf p (ls.take 0))) := Own.nil_ _ _
  clear h
  go_enter Tryd.func57, Tryd.ntmps57
  go_wp2_with fail
  go_loopw [5, 10] (fun v i wr => ∃ (k : Nat) (R : Option Addr) (m c' : Nat), k ≤ n ∧ m ≤ k ∧ i = .int .i64 k ∧ v = .slice R m c' ∧ Own wr w.heap.size R m c' (inputsOf p (ls.take k)) ∧ Below w.heap.size w wr) (fun _ i _ => n - (intOf i).toNat)
  case atStart => exact ⟨0, none, 0, 0, Nat.zero_le _, Nat.le_refl _, rfl, rfl, HO.out, HB.out⟩
  case round =>
    obtain ⟨k, R, m, c', hk, hmk, rfl, rfl, ho, bk⟩ := hrel
    by_cases hlt : k < n
    · obtain ⟨ad, kd, nm, o, ps, py, wd, vl, P, q, d, rfl, hc, _, _, _, HT⟩ := (HH.out.below bk).line hlt
      obtain ⟨c0, c1, c2, c3, c4, c5, c6⟩ := hc.cells
      have k0 : (0 : Int) ≤ (k : Int) := by omega
      have k1 : (k : Int) < (n : Int) := by omega
      have hst := inputsOf_step p ls k (by rw [HL.out]; exact hlt)
      rw [HT.out] at hst
      have b2 := belowNew wr (.cells #[.int .i64 kd, .string nm, .string o, .slice P q d, .int .i64 py, .int .i64 wd, .int .i64 vl] 53)
      have y2 := Blk.new wr #[.int .i64 kd, .string nm, .string o, .slice P q d, .int .i64 py, .int .i64 wd, .int .i64 vl] 53
      have ho2 := ho.below b2
      obtain ⟨W2, hW2⟩ : ∃ W, W = wr.alloc (.cells #[.int .i64 kd, .string nm, .string o, .slice P q d, .int .i64 py, .int .i64 wd, .int .i64 vl] 53) := ⟨_, rfl⟩
      rw [← hW2] at b2 y2 ho2
      have B2 := bk.trans (b2.mono bk.size)
      obtain ⟨⟨d0, d1, d2, d3, d4, d5, d6⟩, _⟩ := y2.seven
      have s2 := B2.size
      clear hc ho b2 bk
      go_upto_region 5 with fail
      rw [← hW2]
      clear hW2 c0 c1 c2 c3 c4 c5 c6
      by_cases hk1 : kd = 1
      · subst hk1
        by_cases hp : py = p
        · subst hp
          have HS : Hid (inputsOf py (ls.take (k + 1)) = inputsOf py (ls.take k) ++ [wd]) := by show _ = _; rw [hst]; simp
          clear hst
          go_wp2_with (at_builtin; refine appendInt W2 rfl (.tmp 23) (.tmp 26) rfl wd w.heap.size _ m _ rfl rfl ho2.2 (by omega) s2 ?_; intro v3 w3 own3 b3)
          rw [← HS.out] at own3
          obtain ⟨R3, c3, rfl, ho3⟩ := ownOf own3
          go_roundw
          case rel => exact ⟨k + 1, R3, m + 1, c3, by omega, by omega, by go_num, rfl, ho3, B2.trans b3⟩
          case measure => simp [intOf]; omega
        · have HS : Hid (inputsOf p (ls.take (k + 1)) = inputsOf p (ls.take k)) := by show _ = _; rw [hst]; simp [hp]
          have qp : (py == p) = false := by simpa using hp
          clear hst hp
          go_wp2_with fail
          go_roundw
          case rel => exact ⟨k + 1, R, m, c', by omega, by omega, by go_num, rfl, by rw [HS.out]; exact ho2, B2⟩
          case measure => simp [intOf]; omega
      · have HS : Hid (inputsOf p (ls.take (k + 1)) = inputsOf p (ls.take k)) := by show _ = _; rw [hst]; simp [hk1]
        have q1 : (kd == 1) = false := by simpa using hk1
        clear hst hk1
        go_wp2_with fail
        go_roundw
        case rel => exact ⟨k + 1, R, m, c', by omega, by omega, by go_num, rfl, by rw [HS.out]; exact ho2, B2⟩
        case measure => simp [intOf]; omega
    · obtain rfl : k = n := by omega
      have HF : Hid (Own wr w.heap.size R m c' (inputsOf p ls)) := by
        show Own _ _ _ _ _ _
        rw [List.take_of_length_le (by rw [HL.out]; exact Nat.le_refl _)] at ho
        exact ho
      go_wp2_with fail
      go_ret
      exact ⟨R, m, c', rfl, HF.out, hmk, bk⟩

end Go.Proofs.YtcbofogmfelpkaaDoor
