/- slices.Repeat of a list of one integer. For at most 1000 copies. -/
import Derived.Test.YtnelcbjegbchkaaGen1
import Derived.Test.YtnelcbjegbchkaaMulK
import Derived.Laws.CopyOwn
import Derived.Deep.DeepCutAuto
import Derived.Deep.RegionLaw
namespace Go.Proofs.Ytnelcbjegbchkaa
open Go Go.RowKit
set_option maxRecDepth 100000

/-- A block of integers of which the first m are z. -/
def RepAt (w : World) (g p m : Nat) (z : Int) : Prop := ∃ cur : List Value, cur.length = p ∧ w.heap[g]? = some (.cells cur.toArray 3 (0, 0)) ∧ ∀ j, j < m → cur[j]? = some (.int .i64 z)

theorem RepAt.own {w : World} {B g p : Nat} {z : Int} (h : RepAt w g p p z) (hB : B ≤ g) (hp : p ≤ 1000) : Own w B (some ⟨g, 0, none⟩) p p (mapTo (fun _ => z) p) := by
  obtain ⟨cur, hl, hg, hz⟩ := h
  have e : cur = vals (mapTo (fun _ => z) p) := by
    apply List.ext_getElem?
    intro j
    by_cases hj : j < p
    · rw [hz j hj, mapTo_vals _ hj]
    · rw [List.getElem?_eq_none (by omega), List.getElem?_eq_none (by rw [vals_length, mapTo_length]; omega)]
  refine ⟨mapTo_length _ _, by rw [vals_length, mapTo_length, Nat.mul_one], .inr ⟨g, p, cur.toArray, rfl, hB, hg, Nat.le_refl _, by simp only [maxLen]; omega, by simp [hl], ?_⟩⟩
  rw [← e]
  simp [← hl]
theorem RepAt.cell {w : World} {g p m j : Nat} {z : Int} (h : RepAt w g p m z) (hj : j < m) : w.cell? ⟨g, j, none⟩ = some (.int .i64 z) := by
  obtain ⟨cur, hl, hg, hz⟩ := h
  have := hz j hj
  simp only [World.cell?, hg]
  simpa using this

theorem rowHeap {w : World} {B g n : Nat} {zs : List Int} (h : Row w B g n zs) : ∃ cur : List Value, cur.length = n ∧ w.heap[g]? = some (.cells cur.toArray 3 (0, 0)) := by
  obtain ⟨hl, hx, hr⟩ := h
  rcases hr with ⟨e0, _⟩ | ⟨g', cap', cur, e0, hb, hg, hn, hm, hs, ht⟩
  · cases e0
  · injection e0 with e1 _ e3
    injection e1 with e1
    injection e1 with e1
    subst e1; subst e3
    exact ⟨cur.toList, by simpa using hs, by simpa using hg⟩
theorem repStep {cur : List Value} {p m k : Nat} {z : Int} (hl : cur.length = p) (hz : ∀ j, j < m → cur[j]? = some (.int .i64 z)) (hmk : m + k ≤ p) :
    (splice cur m (List.replicate k (.int .i64 z))).length = p ∧ ∀ j, j < m + k → (splice cur m (List.replicate k (.int .i64 z)))[j]? = some (.int .i64 z) := by
  refine ⟨by rw [length_splice _ _ _ (by simp; omega), hl], fun j hj => ?_⟩
  unfold splice
  have htl : (cur.take m).length = m := by simp; omega
  by_cases c : j < m
  · rw [List.getElem?_append_left (by omega), List.getElem?_take, if_pos c]
    exact hz j c
  · rw [List.getElem?_append_right (by omega), htl, List.getElem?_append_left (by simp; omega), List.getElem?_replicate, if_pos (by omega)]

/-- What holds when m copies stand. -/
def RepRel (w : World) (g p : Nat) (z : Int) (iv : Value) (wr : World) : Prop := ∃ m : Nat, m ≤ p ∧ iv = .int .i64 m ∧ (0 < p → 0 < m) ∧ RepAt wr g p m z ∧ Below w.heap.size w wr

set_option maxRecDepth 100000 in
set_option maxHeartbeats 2000000 in
theorem repeatOne_any (q p : Nat) (z : Int) (w : World) (hq : w.cell? ⟨q, 0, none⟩ = some (.int .i64 z)) (hql : q < w.heap.size) (hp : p ≤ 1000) :
    Calls Try.prog 75 #[.slice (some ⟨q, 0, none⟩) 1 1, .int .i64 (p : Int)] w fun e w' => ∃ R, e = .returned (.slice R p p) ∧ Own w' w.heap.size R p p (mapTo (fun _ => z) p) ∧ Below w.heap.size w w' := by
  have HMul : Hid (∀ W, Calls Try.prog 148 #[.int .u64 1, .int .u64 (p : Int)] W fun e w' => e = .returned (.tuple #[.int .u64 0, .int .u64 (p : Int)]) ∧ W = w') := fun W => by
    have hh := bits_Mul_any 1 p (by omega) (by omega) W
    rw [Nat.one_mul, show p / 18446744073709551616 = 0 by omega, show p % 18446744073709551616 = p by omega] at hh
    exact hh.mono (by rintro e w' ⟨rfl, rfl⟩; exact ⟨rfl, rfl⟩)
  have hp0 : (0 : Int) ≤ (p : Int) := by omega
  have hbig : ¬ (9223372036854775807 : Int) < (p : Int) := by omega
  have hwp : IntKind.i64.wrap (p : Int) = (p : Int) := wrapIn (by omega) (by omega)
  go_enter Try.func75, Try.ntmps75
  have hsz : (Try.prog.info? 3).map (·.size) = some 1 := by kernel_rfl
  have HSZ := Lib.hid hsz
  have hmin : Nat.min 1 p = min 1 p := rfl
  clear hsz hmin
  go_wp2_with fail
  refine (HMul.out _).mono ?_
  rintro e w1 ⟨rfl, rfl⟩
  go_upto_region 7 with (at_make; refine makeRow _ rfl _ rfl p rfl (by omega) ?_; intro w2 hrow hb2)
  obtain ⟨cur, hcl, hcg⟩ := rowHeap hrow
  obtain ⟨g, hg⟩ : ∃ g, w.heap.size = g := ⟨_, rfl⟩
  rw [hg] at hcg
  have hg2 := hrow.lt
  have hqg : q ≠ g := by omega
  have hq2 : w2.cell? ⟨q, 0, none⟩ = some (.int .i64 z) := cellKept hb2 hql hq
  have hcs : (List.replicate (min 1 p) (Value.int .i64 z)).length = Nat.min 1 p := by rw [List.length_replicate]
  have HRS := Lib.hid (repStep (z := z) (m := 0) (k := min 1 p) hcl (fun j hj => by omega) (by omega))
  have hgB : w.heap.size ≤ g := by omega
  have hpos : 0 < (List.replicate (min 1 p) (Value.int .i64 z)).length → (some ⟨g, 0, none⟩ : Option Addr) = some ⟨g, 0, none⟩ ∧ ∃ ad, (some ⟨q, 0, none⟩ : Option Addr) = some ad ∧ ∀ (j : Nat) (v : Value), (List.replicate (min 1 p) (Value.int .i64 z))[j]? = some v → w2.cell? (ad.add j) = some v := fun _ => ⟨rfl, _, rfl, fun j v hj => by
    rw [List.getElem?_replicate] at hj
    split at hj
    · injection hj with hj
      have e0 : j = 0 := by omega
      subst e0; subst hj
      simpa [Addr.add] using hq2
    · cases hj⟩
  have HPOS := Lib.hid hpos
  have hfit : 0 + (List.replicate (min 1 p) (Value.int .i64 z)).length ≤ cur.length := by rw [List.length_replicate, hcl]; omega
  have hone : ∀ v ∈ List.replicate (min 1 p) (Value.int .i64 z), v.oneCell' = true := fun v hv => by rw [List.eq_of_mem_replicate hv]; rfl
  have HFIT := Lib.hid hfit
  have HONE := Lib.hid hone
  have HCS := Lib.hid hcs
  have HB2 := Lib.hid hb2
  have HCG := Lib.hid hcg
  have HG := Lib.hid hg
  rw [hg]
  clear hq2 hrow hg2 hpos hfit hone hcs hb2 hcg hg hcl
  go_wp2_with (refine wpList_copy_splice (o := ⟨some 33, _, _, _, _, _⟩) rfl (.tmp 31) (.tmp 32) 26 26 rfl 3 Try.underlying26 HSZ.out (some ⟨g, 0, none⟩) (some ⟨q, 0, none⟩) p p 1 1 rfl rfl g 0 cur 3 HCG.out (List.replicate (min 1 p) (.int .i64 z)) HCS.out HPOS.out HFIT.out HONE.out w.heap.size w HB2.out hgB ?_; intro w3 HG3 hb3)
  have R0 : RepAt w3 g p (min 1 p) z := ⟨_, HRS.out.1, HG3.out, fun j hj => HRS.out.2 j (by omega)⟩
  have HR0 := Lib.hid R0
  clear R0 HG3
  go_loopw [8] (fun iv wr => RepRel w g p z iv wr) (fun iv _ => p - (intOf iv).toNat)
  case atStart => exact ⟨min 1 p, by omega, by simp, by omega, HR0.out, hb3⟩
  case round =>
    obtain ⟨m, hm, rfl, hm0, hR, bk⟩ := hrel
    have q0 : (0 : Int) ≤ (m : Int) := by omega
    have q1 : (m : Int) ≤ (p : Int) := by omega
    by_cases hlt : m < p
    · have hlt' : (m : Int) < (p : Int) := by omega
      have hne : ¬ m = p := by omega
      have m0 : 0 < m := hm0 (by omega)
      have hcell : ∀ j, j < m → wr.cell? ⟨g, j, none⟩ = some (.int .i64 z) := fun j hj => hR.cell hj
      obtain ⟨cur2, hl2, hg2, hz2⟩ := hR
      obtain ⟨k, hk⟩ : ∃ k, min m (p - m) = k := ⟨_, rfl⟩
      have k1 : 0 < k := by omega
      have k2 : m + k ≤ p := by omega
      have HS := Lib.hid (repStep (k := k) hl2 hz2 k2)
      have HCS2 : Hid ((List.replicate k (Value.int .i64 z)).length = Nat.min m (p - m)) := by show _ = _; rw [List.length_replicate]; exact hk.symm
      have HCELL : Hid (∀ (j : Nat) (v : Value), (List.replicate k (Value.int .i64 z))[j]? = some v → wr.drew.cell? ((⟨g, 0, none⟩ : Addr).add j) = some v) := fun j v hj => by
        rw [List.getElem?_replicate] at hj
        split at hj
        · injection hj with hj
          subst hj
          rw [show (⟨g, 0, none⟩ : Addr).add j = ⟨g, j, none⟩ by simp [Addr.add] <;> omega]
          exact hcell j (by omega)
        · cases hj
      have HFIT2 : Hid (m + (List.replicate k (Value.int .i64 z)).length ≤ cur2.length) := by show _ ≤ _; rw [List.length_replicate, hl2]; exact k2
      have HONE2 : Hid (∀ v ∈ List.replicate k (Value.int .i64 z), v.oneCell' = true) := fun v hv => by rw [List.eq_of_mem_replicate hv]; rfl
      have HG2 := Lib.hid hg2
      have HBK := Lib.hid bk
      clear hcell hl2 hg2 hz2 bk
      have hmkI : IntKind.i64.wrap ((m : Int) + (k : Int)) = (m : Int) + (k : Int) := wrapIn (by omega) (by omega)
      go_wp2_with fail
      first
        | (go_region_law (refine step_copy_splice rfl (.tmp 41) (.tmp 44) 26 26 rfl 3 Try.underlying26 HSZ.out (some ⟨g, m, none⟩) (some ⟨g, 0, none⟩) (p - m) (p - m) m p (by simp [Act.eval, Act.put]; omega) (by simp [Act.eval, Act.put]) g m cur2 3 HG2.out (List.replicate k (.int .i64 z)) HCS2.out (fun _ => ⟨rfl, _, rfl, HCELL.out⟩) HFIT2.out HONE2.out w.heap.size w HBK.out.drew hgB ?_; intro w4 HG4 hb4))
        | fail
      all_goals
        have R4 : RepAt w4 g p (m + k) z := ⟨_, HS.out.1, HG4.out, HS.out.2⟩
        have HR4 := Lib.hid R4
        clear R4 HG4
        go_wp2_with fail
        go_roundw
        case rel =>
          have REL : RepRel w g p z (.int .i64 ((m : Int) + (k : Int))) w4 := ⟨m + k, k2, by simp, fun _ => by omega, HR4.out, hb4⟩
          first | exact REL | ((repeat apply Exists.intro); exact ⟨REL, rfl⟩)
        case measure => simp [intOf]; omega
    · obtain rfl : m = p := by omega
      go_wp2_with fail
      go_ret
      exact ⟨_, rfl, hR.own hgB hp, bk⟩

end Go.Proofs.Ytnelcbjegbchkaa
