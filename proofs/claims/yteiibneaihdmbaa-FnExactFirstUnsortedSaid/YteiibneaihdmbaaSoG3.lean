/- The model's first unsorted list (soFirst), SortsAll, FirstUnsorted. For valid networks. -/
import Derived.Test.YteiibneaihdmbaaSoG2
import Derived.Deep.DeepCutAuto
namespace Go.Proofs.Yteiibneaihdmbaa
open Go Go.RowKit
set_option maxRecDepth 100000

def soL (m : Nat) (l : List St) : List Int := if firN m l < 2 ^ m then bitsN m (firN m l) else []
theorem pow12 {m : Nat} (h : m ≤ 12) : ∃ N : Nat, 2 ^ m = N ∧ (2 : Int) ^ m = (N : Int) ∧ 1 ≤ N ∧ N ≤ 4096 :=
  ⟨2 ^ m, rfl, by push_cast; rfl, Nat.one_le_two_pow, by have := Nat.pow_le_pow_right (n := 2) (by omega) h; simpa using this⟩
theorem soL_here {m k N : Nat} {l : List St} (hN : 2 ^ m = N) (h : fstTo (unsN m l) k = k) (hu : unsN m l k = true) (hk : k < N) : firN m l = k ∧ soL m l = bitsN m k := by
  have e : firN m l = k := by rw [firN, hN]; exact fstTo_here h hu N hk
  exact ⟨e, by rw [soL, e, hN, if_pos hk]⟩
theorem soL_none {m N : Nat} {l : List St} (hN : 2 ^ m = N) (h : fstTo (unsN m l) N = N) : soL m l = [] := by
  rw [soL, firN, hN, h, if_neg (by omega)]

set_option maxRecDepth 100000 in
set_option maxHeartbeats 2000000 in
theorem soFirst_any (A : Option Addr) (n c : Nat) (l : List St) (m : Nat) (w : World) (h : HasT w A n l) (hN : Net m l) :
    Calls Try.prog 95 #[.int .i64 (m : Int), .slice A n c] w fun e w' => ∃ R k c', e = .returned (.slice R k c') ∧ Own w' w.heap.size R k c' (soL m l) ∧ Below w.heap.size w w' := by
  have hn : n ≤ 60 := by rw [← h.1]; exact hN.short
  have hm0 := hN.one
  have hm1 := hN.twelve
  have HL := Lib.hid h.1
  have HN := Lib.hid hN
  obtain ⟨N, hP, hNI, N1, N4⟩ := pow12 hm1
  have HP := Lib.hid hP
  have HE64 : Hid (wrap64 ((2 : Int) ^ m) = (N : Int)) := by show _ = _; rw [hNI]; unfold wrap64; omega
  clear hN hP hNI
  go_enter Try.func95, Try.ntmps95
  go_wp2_with fail
  go_loopw [5] (fun iv wr => ∃ k : Nat, k ≤ N ∧ iv = .int .i64 k ∧ Hid (fstTo (unsN m l) k = k) ∧ Below w.heap.size w wr) (fun iv _ => N - (intOf iv).toNat)
  case atStart => exact ⟨0, Nat.zero_le _, rfl, rfl, Below.refl _ _⟩
  case round =>
    obtain ⟨k, hk, rfl, HK, bk⟩ := hrel
    have q0 : (0 : Int) ≤ (k : Int) := by omega
    have p0 : (0 : Int) ≤ (m : Int) := by omega
    by_cases hlt : k < N
    · have hlt' : (k : Int) < (N : Int) := by omega
      have e64 := HE64.out
      have HBt := Lib.hid (btOf_any (k : Int) m wr q0 (by omega) (by omega))
      go_wp2_with fail
      clear e64
      refine (HBt.out).mono ?_
      rintro e w2 ⟨R2, c2, rfl, o2, b2⟩
      have B2 := bk.trans (b2.mono bk.size)
      have o2' : Own w2 wr.heap.size R2 m c2 (bitsN m k) := o2
      have HW := Lib.hid (soWith_any A n c l R2 m c2 (bitsN m k) w2 (h.below B2) o2'.has (own_nilOk o2') HN.out)
      have HO2 := Lib.hid o2'
      clear o2 o2' HBt
      go_wp2_with fail
      refine (HW.out).mono ?_
      rintro e w3 ⟨r, c3, g, rfl, o3, hf, b3⟩
      have B3 := B2.trans (b3.mono B2.size)
      have HO3 := Lib.hid (HO2.out.below b3)
      obtain ⟨ys, hys⟩ : ∃ ys, aft l (bitsN m k) n = ys := ⟨_, rfl⟩
      rw [hys] at o3
      have HU : Hid (unsN m l k = !ordTo ys m) := by show _ = _; rw [unsN, HL.out, hys]
      have BK := Lib.hid bk
      clear hys hf HW b2 b3 bk
      go_wp2_with fail
      go_loopw [9] (fun jv wq => ∃ j : Nat, j + 1 ≤ m ∧ jv = .int .i64 ((j : Int) + 1) ∧ Hid (ordTo ys (j + 1) = true) ∧ Hid (Below w3.heap.size w3 wq)) (fun jv _ => m - (intOf jv).toNat)
      case atStart => exact ⟨0, by omega, rfl, by show _ = _; simp [ordTo], Below.refl _ _⟩
      case round =>
        obtain ⟨j, hj, rfl, HJ, BJ⟩ := hrel
        by_cases hlj : j + 1 < m
        · have j0 : (0 : Int) ≤ (j : Int) := by omega
          have j1 : (j : Int) + 1 < (m : Int) := by omega
          have j2 : ((j : Int) + 1).toNat = j + 1 := by omega
          have j3 : (0 : Int) ≤ (j : Int) + 1 := by omega
          have j4 : (j : Int) < (m : Int) := by omega
          obtain ⟨p, hp⟩ : ∃ p, p = ys.getD j 0 := ⟨_, rfl⟩
          obtain ⟨q, hq⟩ : ∃ q, q = ys.getD (j + 1) 0 := ⟨_, rfl⟩
          have o4 := o3.below BJ.out
          have cA : wr.cell? ⟨r, j, none⟩ = some (.int .i64 p) := by rw [hp]; exact o4.cellR (by omega)
          have cB : wr.cell? ⟨r, j + 1, none⟩ = some (.int .i64 q) := by rw [hq]; exact o4.cellR hlj
          have HPe := Lib.hid hp
          have HQe := Lib.hid hq
          clear hp hq o4
          by_cases hpq : q < p
          · have HX : Hid (firN m l = k ∧ soL m l = bitsN m k) := soL_here HP.out HK.out (by rw [HU.out, ordTo_no (k := j + 1) (by rw [← HQe.out, Nat.add_sub_cancel, ← HPe.out]; exact hpq) m hlj]; rfl) hlt
            go_wp2_with fail
            go_quiet (fail)
            go_wp2_with fail
            go_ret
            exact ⟨R2, m, c2, rfl, by rw [HX.out.2]; exact ((HO3.out.below BJ.out).below (below_drewN (Below.refl _ _) _)).mono BK.out.size, B3.trans ((below_drewN BJ.out _).mono B3.size)⟩
          · have HX : Hid (ordTo ys (j + 1 + 1) = true) := ordTo_next HJ.out (by rw [← HQe.out, Nat.add_sub_cancel, ← HPe.out]; omega)
            go_wp2_with fail
            go_quiet (fail)
            go_wp2_with fail
            go_roundw
            case rel => exact ⟨j + 1, by omega, by go_num, HX, below_drewN BJ.out _⟩
            case measure => simp [intOf]; omega
        · obtain rfl : m = j + 1 := by omega
          have HX : Hid (fstTo (unsN (j + 1) l) (k + 1) = k + 1) := fstTo_next HK.out (by rw [HU.out, HJ.out]; rfl)
          have B5 := B3.trans (BJ.out.mono B3.size)
          go_wp2_with fail
          go_roundw
          case rel => exact ⟨k + 1, by omega, by go_num, HX, B5⟩
          case measure => simp [intOf]; omega
    · obtain rfl : k = N := by omega
      have e64 := HE64.out
      go_wp2_with fail
      clear e64
      go_ret
      exact ⟨none, 0, 0, rfl, by rw [soL_none HP.out HK.out]; exact Own.nil_ _ _, bk⟩

theorem soL_yes {m : Nat} {l : List St} (_hm : 1 ≤ m) : (soL m l).length = if firN m l < 2 ^ m then m else 0 := by
  rw [soL]
  split
  · rw [bitsN_length]
  · rfl

set_option maxHeartbeats 2000000 in
theorem spec_SortsAll (x : Int) (A : Option Addr) (n c : Nat) (l : List St) (rb0 rb1 : Bool) (w : World) (_hx : I64 x) (h : HasT w A n l) (hn : n ≤ 1048576) (_ : NilOk A n c) (hM : m_SortsAll x l = (rb0, rb1)) :
    Calls Try.prog 36 #[.int .i64 x, .slice A n c] w fun e w' => e = .returned (.tuple #[.bool rb0, .bool rb1]) ∧ Below w.heap.size w w' := by
  have HM := Lib.hid hM
  obtain ⟨y, hy⟩ : ∃ y, netB x l = y := ⟨_, rfl⟩
  have HG := Lib.hid (soGood_any x A n c l y w h hn hy)
  have HY := Lib.hid hy
  clear hM hy
  cases y with
  | false =>
    have hR : false = rb0 ∧ false = rb1 := by
      have := HM.out
      rw [m_SortsAll, if_neg (by rw [HY.out]; decide)] at this
      injection this with a b
      exact ⟨a, b⟩
    obtain ⟨rfl, rfl⟩ := hR
    go_enter Try.func36, Try.ntmps36
    go_wp2_with fail
    refine (HG.out).mono ?_
    rintro e w1 ⟨rfl, b1⟩
    go_wp2_with fail
    go_ret2
    exact ⟨rfl, b1⟩
  | true =>
    obtain ⟨m, rfl, hNet⟩ := net_yes HY.out
    have m1 := hNet.one
    have hR : decide (firN m l = 2 ^ m) = rb0 ∧ true = rb1 := by
      have := HM.out
      rw [m_SortsAll, if_pos HY.out, Int.toNat_natCast] at this
      injection this with a b
      exact ⟨a, b⟩
    obtain ⟨rfl, rfl⟩ := hR
    have HS := Lib.hid (fun w' (hb : Below w.heap.size w w') => soFirst_any A n c l m w' (h.below hb) hNet)
    have HLe : Hid (firN m l ≤ 2 ^ m) := fstTo_le _ _
    have HLen := Lib.hid (soL_yes (l := l) m1)
    clear h hNet
    go_enter Try.func36, Try.ntmps36
    go_wp2_with fail
    refine (HG.out).mono ?_
    rintro e w1 ⟨rfl, b1⟩
    go_wp2_with fail
    refine (HS.out w1 b1).mono ?_
    rintro e w2 ⟨R, k, c', rfl, ho, b2⟩
    have B2 := b1.trans (b2.mono b1.size)
    by_cases hk : k = 0
    · subst hk
      have e0 : Hid (firN m l = 2 ^ m) := by
        show _ = _
        have h1 := HLen.out
        rw [ho.1] at h1
        have h2 := HLe.out
        by_cases e : firN m l < 2 ^ m
        · rw [if_pos e] at h1; omega
        · omega
      clear ho
      go_wp2_with fail
      go_ret2
      exact ⟨by rw [e0.out]; simp, B2⟩
    · have e0 : Hid (¬ firN m l = 2 ^ m) := by
        show ¬ _
        have h1 := HLen.out
        rw [ho.1] at h1
        intro e
        rw [if_neg (by omega)] at h1
        exact hk h1
      have hk0 : ((k : Int) == 0) = false := by simpa using hk
      clear ho
      go_wp2_with fail
      go_ret2
      exact ⟨by rw [decide_eq_false e0.out]; rfl, B2⟩

set_option maxHeartbeats 2000000 in
theorem spec_FirstUnsorted (x : Int) (A : Option Addr) (n c : Nat) (l : List St) (rs : List Int) (rb : Bool) (w : World) (_hx : I64 x) (h : HasT w A n l) (hn : n ≤ 1048576) (_ : NilOk A n c) (hM : m_FirstUnsorted x l = (rs, rb)) :
    Calls Try.prog 38 #[.int .i64 x, .slice A n c] w fun e w' => ∃ R k c', e = .returned (.tuple #[.slice R k c', .bool rb]) ∧ Has w' R k rs ∧ k ≤ 16777216 ∧ Below w.heap.size w w' := by
  have HM := Lib.hid hM
  obtain ⟨y, hy⟩ : ∃ y, netB x l = y := ⟨_, rfl⟩
  have HG := Lib.hid (soGood_any x A n c l y w h hn hy)
  have HY := Lib.hid hy
  clear hM hy
  cases y with
  | false =>
    have hR : [] = rs ∧ false = rb := by
      have := HM.out
      rw [m_FirstUnsorted, if_neg (by rw [HY.out]; intro h; exact absurd h.1 (by decide))] at this
      injection this with a b
      exact ⟨a, b⟩
    obtain ⟨rfl, rfl⟩ := hR
    go_enter Try.func38, Try.ntmps38
    go_wp2_with fail
    refine (HG.out).mono ?_
    rintro e w1 ⟨rfl, b1⟩
    go_wp2_with fail
    go_ret2
    exact ⟨none, 0, 0, rfl, Has.nil_, by omega, b1⟩
  | true =>
    obtain ⟨m, rfl, hNet⟩ := net_yes HY.out
    have m1 := hNet.one
    have m12 := hNet.twelve
    have hR : soL m l = rs ∧ decide (firN m l < 2 ^ m) = rb := by
      have := HM.out
      rw [m_FirstUnsorted, HY.out, Int.toNat_natCast] at this
      by_cases e : firN m l < 2 ^ m
      · rw [if_pos ⟨rfl, e⟩] at this
        injection this with a b
        exact ⟨by rw [soL, if_pos e]; exact a, by rw [decide_eq_true e]; exact b⟩
      · rw [if_neg (fun h => e h.2)] at this
        injection this with a b
        exact ⟨by rw [soL, if_neg e]; exact a, by rw [decide_eq_false e]; exact b⟩
    obtain ⟨rfl, rfl⟩ := hR
    have HS := Lib.hid (fun w' (hb : Below w.heap.size w w') => soFirst_any A n c l m w' (h.below hb) hNet)
    have HLen := Lib.hid (soL_yes (l := l) m1)
    clear h hNet
    go_enter Try.func38, Try.ntmps38
    go_wp2_with fail
    refine (HG.out).mono ?_
    rintro e w1 ⟨rfl, b1⟩
    go_wp2_with fail
    refine (HS.out w1 b1).mono ?_
    rintro e w2 ⟨R, k, c', rfl, ho, b2⟩
    have B2 := b1.trans (b2.mono b1.size)
    have hk : Hid (k = if firN m l < 2 ^ m then m else 0) := by
      show _ = _
      rw [← ho.1]
      exact HLen.out
    have hkm : k ≤ 12 := by
      rw [hk.out]
      split <;> omega
    have HO := Lib.hid ho
    clear ho
    by_cases e : firN m l < 2 ^ m
    · have HD : Hid (decide (firN m l < 2 ^ m) = true) := decide_eq_true e
      obtain rfl : k = m := by rw [hk.out, if_pos e]
      have k1 : 0 < k := by omega
      clear e hk
      go_wp2_with fail
      go_ret2
      exact ⟨R, k, c', by rw [HD.out]; rfl, HO.out.has, by omega, B2⟩
    · have e1 : k = 0 := by rw [hk.out, if_neg e]
      have HD : Hid (decide (firN m l < 2 ^ m) = false) := decide_eq_false e
      subst e1
      clear e hk
      go_wp2_with fail
      go_ret2
      exact ⟨R, 0, c', by rw [HD.out]; rfl, HO.out.has, by omega, B2⟩

end Go.Proofs.Yteiibneaihdmbaa
