/- The program's first unsorted list (a search left by goto), FirstUnsorted, SortsAll. For valid networks. -/
import Derived.Test.YteiibneaihdmbaaSoI4
import Derived.WalkMore
import Derived.ScopeJumps
namespace Go.Proofs.Yteiibneaihdmbaa
open Go Go.RowKit
set_option maxRecDepth 100000

/-- What holds at the jump: the list that is not sorted. -/
def FuRel (w : World) (m : Nat) (l : List St) (a' : Act) (w' : World) : Prop :=
  ∃ (R : Option Addr) (k c' : Nat) (u0 u1 u2 u3 u4 u5 u7 u8 u9 u10 u11 u12 u13 u14 u15 u16 u17 u18 u19 u20 u21 u22 u23 u24 u25 u26 u27 u28 u29 u30 u31 u32 u33 u34 u35 u36 u37 u38 u39 u40 u41 u42 u43 u44 : Value), a' = { tmps := #[u0, u1, u2, u3, u4, u5, .slice R k c', u7, u8, u9, u10, u11, u12, u13, u14, u15, u16, u17, u18, u19, u20, u21, u22, u23, u24, u25, u26, u27, u28, u29, u30, u31, u32, u33, u34, u35, u36, u37, u38, u39, u40, u41, u42, u43, u44], defers := [] } ∧ firN m l < 2 ^ m ∧ Own w' w.heap.size R k c' (soL m l) ∧ Below w.heap.size w w'

set_option maxRecDepth 100000 in
set_option maxHeartbeats 2000000 in
theorem firstUnsorted_any (A : Option Addr) (n c : Nat) (l : List St) (m : Nat) (w : World) (h : HasT w A n l) (hN : Net m l) (hY : netB (m : Int) l = true) :
    Calls Try.prog 39 #[.int .i64 (m : Int), .slice A n c] w fun e w' => ∃ R k c', e = .returned (.tuple #[.slice R k c', .bool (decide (firN m l < 2 ^ m))]) ∧ Own w' w.heap.size R k c' (soL m l) ∧ Below w.heap.size w w' := by
  have hn : n ≤ 60 := by rw [← h.1]; exact hN.short
  have hm0 := hN.one
  have hm1 := hN.twelve
  have HL := Lib.hid h.1
  have HN := Lib.hid hN
  have HG := Lib.hid (isNetwork_any (m : Int) A n c l true w h (by omega) hY)
  obtain ⟨N, hP, hNI, N1, N4⟩ := pow12 hm1
  have HP := Lib.hid hP
  have HE64 : Hid (wrap64 ((2 : Int) ^ m) = (N : Int)) := by show _ = _; rw [hNI]; unfold wrap64; omega
  have HNI := Lib.hid hNI
  clear hN hP hNI
  have mm0 : (0 : Int) ≤ (m : Int) := by omega
  go_enter Try.func39, Try.ntmps39
  go_wp2_with fail
  refine wp_scope_jumps 0 (FuRel w m l) (fun _ _ => 0) rfl ?_ ?_
  · go_wp2_with fail
    refine (HG.out).mono ?_
    rintro e w1 ⟨rfl, b1⟩
    go_wp2_with fail
    rw [HE64.out]
    go_loopw [16] (fun iv wr => ∃ k : Nat, k ≤ N ∧ iv = .int .i64 k ∧ Hid (fstTo (unsN m l) k = k) ∧ Below w.heap.size w wr) (fun iv _ => N - (intOf iv).toNat)
    case atStart => exact ⟨0, Nat.zero_le _, rfl, rfl, b1⟩
    case round =>
      obtain ⟨k, hk, rfl, HK, bk⟩ := hrel
      have q0 : (0 : Int) ≤ (k : Int) := by omega
      by_cases hlt : k < N
      · have hlt' : (k : Int) < (N : Int) := by omega
        have HBt := Lib.hid (bitsOf_bitsN m k N wr hm1 HNI.out N4 hlt)
        go_wp2_with fail
        refine (HBt.out).mono ?_
        rintro e w2 ⟨R2, c2, rfl, o2, b2⟩
        have B2 := bk.trans (b2.mono bk.size)
        have HW := Lib.hid (afterSteps_any A n c l R2 m c2 (bitsN m k) w2 (h.below B2) o2.has HN.out)
        have HO2 := Lib.hid o2
        clear o2 HBt
        go_wp2_with fail
        refine (HW.out).mono ?_
        rintro e w3 ⟨r, c3, rfl, o3, b3⟩
        have B3 := B2.trans (b3.mono B2.size)
        have HO3 := Lib.hid (HO2.out.below b3)
        obtain ⟨ys, hys⟩ : ∃ ys, aft l (bitsN m k) n = ys := ⟨_, rfl⟩
        rw [hys] at o3
        have HU : Hid (unsN m l k = !ordTo ys m) := by show _ = _; rw [unsN, HL.out, hys]
        have BK := Lib.hid bk
        clear hys HW b2 b3 bk
        go_wp2_with fail
        go_loopw [9] (fun jv wq => ∃ j : Nat, j + 1 ≤ m ∧ jv = .int .i64 ((j : Int) + 1) ∧ Hid (ordTo ys (j + 1) = true) ∧ Hid (Below w3.heap.size w3 wq)) (fun jv _ => m - (intOf jv).toNat)
        case atStart => exact ⟨0, by omega, rfl, by show _ = _; simp [ordTo], Below.refl _ _⟩
        case round =>
          obtain ⟨j, hj, rfl, HJ, BJ⟩ := hrel
          by_cases hlj : j + 1 < m
          · have j0 : (0 : Int) ≤ (j : Int) := by omega
            have j1 : (j : Int) + 1 < (m : Int) := by omega
            have j2 : ((j : Int) + 1).toNat = j + 1 := by omega
            have j3 : (0 : Int) ≤ (j : Int) + 1 := by omega
            have j4 : (j : Int) < (m : Int) := by omega
            obtain ⟨p, hp⟩ : ∃ p, p = ys.getD j 0 := ⟨_, rfl⟩
            obtain ⟨q, hq⟩ : ∃ q, q = ys.getD (j + 1) 0 := ⟨_, rfl⟩
            have o4 := o3.below BJ.out
            have cA : wr.cell? ⟨r, j, none⟩ = some (.int .i64 p) := by rw [hp]; exact o4.cellR (by omega)
            have cB : wr.cell? ⟨r, j + 1, none⟩ = some (.int .i64 q) := by rw [hq]; exact o4.cellR hlj
            have HPe := Lib.hid hp
            have HQe := Lib.hid hq
            clear hp hq o4
            by_cases hpq : q < p
            · have HX : Hid (firN m l = k ∧ soL m l = bitsN m k) := soL_here HP.out HK.out (by rw [HU.out, ordTo_no (k := j + 1) (by rw [← HQe.out, Nat.add_sub_cancel, ← HPe.out]; exact hpq) m hlj]; rfl) hlt
              go_wp2_with fail
              go_quiet (fail)
              go_wp2_with fail
              go_step3
              refine ⟨rfl, R2, m, c2, _, _, _, _, _, _, _, _, _, _, _, _, _, _, _, _, _, _, _, _, _, _, _, _, _, _, _, _, _, _, _, _, _, _, _, _, _, _, _, _, _, _, _, _, rfl, by rw [HX.out.1, HP.out]; exact hlt, ?_, B3.trans ((below_drewN BJ.out _).mono B3.size)⟩
              rw [HX.out.2]
              exact ((HO3.out.below BJ.out).below (below_drewN (Below.refl _ _) _)).mono BK.out.size
            · have HX : Hid (ordTo ys (j + 1 + 1) = true) := ordTo_next HJ.out (by rw [← HQe.out, Nat.add_sub_cancel, ← HPe.out]; omega)
              go_wp2_with fail
              go_quiet (fail)
              go_wp2_with fail
              go_roundw
              case rel => exact ⟨j + 1, by omega, by go_num, HX, below_drewN BJ.out _⟩
              case measure => simp [intOf]; omega
          · obtain rfl : m = j + 1 := by omega
            have HX : Hid (fstTo (unsN (j + 1) l) (k + 1) = k + 1) := fstTo_next HK.out (by rw [HU.out, HJ.out]; rfl)
            have B5 := B3.trans (BJ.out.mono B3.size)
            go_wp2_with fail
            go_roundw
            case rel => exact ⟨k + 1, by omega, by go_num, HX, B5⟩
            case measure => simp [intOf]; omega
      · obtain rfl : k = N := by omega
        have HD : Hid (decide (firN m l < 2 ^ m) = false) := decide_eq_false (by rw [firN, HP.out, HK.out]; omega)
        go_wp2_with fail
        simp only [Exit.jump]
        go_ret2
        exact ⟨none, 0, 0, by rw [HD.out]; rfl, by rw [soL_none HP.out HK.out]; exact Own.nil_ _ _, bk⟩
  · rintro a' wr ⟨R, k, c', u0, u1, u2, u3, u4, u5, u7, u8, u9, u10, u11, u12, u13, u14, u15, u16, u17, u18, u19, u20, u21, u22, u23, u24, u25, u26, u27, u28, u29, u30, u31, u32, u33, u34, u35, u36, u37, u38, u39, u40, u41, u42, u43, u44, rfl, hlt, ho, bk⟩
    have HD : Hid (decide (firN m l < 2 ^ m) = true) := decide_eq_true hlt
    clear hlt
    go_wp2_with fail
    simp only [Exit.jump]
    go_ret2
    exact ⟨R, k, c', by rw [HD.out]; rfl, ho, bk⟩

set_option maxHeartbeats 2000000 in
theorem impl_FirstUnsorted (x : Int) (A : Option Addr) (n c : Nat) (l : List St) (rs : List Int) (rb : Bool) (w : World) (_hx : I64 x) (h : HasT w A n l) (hn : n ≤ 1048576) (_ : NilOk A n c) (hM : m_FirstUnsorted x l = (rs, rb)) :
    Calls Try.prog 39 #[.int .i64 x, .slice A n c] w fun e w' => ∃ R k c', e = .returned (.tuple #[.slice R k c', .bool rb]) ∧ Own w' w.heap.size R k c' rs ∧ k ≤ 16777216 ∧ Below w.heap.size w w' := by
  have HM := Lib.hid hM
  obtain ⟨y, hy⟩ : ∃ y, netB x l = y := ⟨_, rfl⟩
  have HG := Lib.hid (isNetwork_any x A n c l y w h hn hy)
  have HY := Lib.hid hy
  clear hM hy
  cases y with
  | false =>
    have hR : [] = rs ∧ false = rb := by
      have := HM.out
      rw [m_FirstUnsorted, if_neg (by rw [HY.out]; intro h; exact absurd h.1 (by decide))] at this
      injection this with a b
      exact ⟨a, b⟩
    obtain ⟨rfl, rfl⟩ := hR
    go_enter Try.func39, Try.ntmps39
    go_wp2_with fail
    go_step3
    go_wp2_with fail
    refine (HG.out).mono ?_
    rintro e w1 ⟨rfl, b1⟩
    go_wp2_with fail
    simp only [Exit.noGoto_ret]
    go_ret2
    exact ⟨none, 0, 0, rfl, Own.nil_ _ _, by omega, b1⟩
  | true =>
    obtain ⟨m, rfl, hNet⟩ := net_yes HY.out
    have m12 := hNet.twelve
    have hR : soL m l = rs ∧ decide (firN m l < 2 ^ m) = rb := by
      have := HM.out
      rw [m_FirstUnsorted, HY.out, Int.toNat_natCast] at this
      by_cases e : firN m l < 2 ^ m
      · rw [if_pos ⟨rfl, e⟩] at this
        injection this with a b
        exact ⟨by rw [soL, if_pos e]; exact a, by rw [decide_eq_true e]; exact b⟩
      · rw [if_neg (fun h => e h.2)] at this
        injection this with a b
        exact ⟨by rw [soL, if_neg e]; exact a, by rw [decide_eq_false e]; exact b⟩
    obtain ⟨rfl, rfl⟩ := hR
    refine (firstUnsorted_any A n c l m w h hNet HY.out).mono ?_
    rintro e w2 ⟨R, k, c', rfl, ho, b2⟩
    have hk : k ≤ 12 := by
      rw [← ho.1, soL_yes hNet.one]
      split <;> omega
    exact ⟨R, k, c', rfl, ho, by omega, b2⟩

set_option maxHeartbeats 2000000 in
theorem impl_SortsAll (x : Int) (A : Option Addr) (n c : Nat) (l : List St) (rb0 rb1 : Bool) (w : World) (_hx : I64 x) (h : HasT w A n l) (hn : n ≤ 1048576) (_ : NilOk A n c) (hM : m_SortsAll x l = (rb0, rb1)) :
    Calls Try.prog 37 #[.int .i64 x, .slice A n c] w fun e w' => e = .returned (.tuple #[.bool rb0, .bool rb1]) ∧ Below w.heap.size w w' := by
  have HM := Lib.hid hM
  obtain ⟨y, hy⟩ : ∃ y, netB x l = y := ⟨_, rfl⟩
  have HG := Lib.hid (isNetwork_any x A n c l y w h hn hy)
  have HY := Lib.hid hy
  clear hM hy
  cases y with
  | false =>
    have hR : false = rb0 ∧ false = rb1 := by
      have := HM.out
      rw [m_SortsAll, if_neg (by rw [HY.out]; decide)] at this
      injection this with a b
      exact ⟨a, b⟩
    obtain ⟨rfl, rfl⟩ := hR
    go_enter Try.func37, Try.ntmps37
    go_wp2_with fail
    refine (HG.out).mono ?_
    rintro e w1 ⟨rfl, b1⟩
    go_wp2_with fail
    go_ret2
    exact ⟨rfl, b1⟩
  | true =>
    obtain ⟨m, rfl, hNet⟩ := net_yes HY.out
    have hR : decide (firN m l = 2 ^ m) = rb0 ∧ true = rb1 := by
      have := HM.out
      rw [m_SortsAll, if_pos HY.out, Int.toNat_natCast] at this
      injection this with a b
      exact ⟨a, b⟩
    obtain ⟨rfl, rfl⟩ := hR
    obtain ⟨d, hd⟩ : ∃ d, decide (firN m l < 2 ^ m) = d := ⟨_, rfl⟩
    have HS : Hid (∀ w', Below w.heap.size w w' → Calls Try.prog 39 #[.int .i64 (m : Int), .slice A n c] w' fun e w2 => ∃ R k c', e = .returned (.tuple #[.slice R k c', .bool d]) ∧ Below w'.heap.size w' w2) := fun w' hb =>
      (firstUnsorted_any A n c l m w' (h.below hb) hNet HY.out).mono fun e w2 ⟨R, k, c', he, _, hb⟩ => ⟨R, k, c', by rw [he, hd], hb⟩
    have HD : Hid (decide (firN m l = 2 ^ m) = !d) := by
      show _ = _
      have h1 : firN m l ≤ 2 ^ m := fstTo_le _ _
      rw [← hd]
      by_cases e : firN m l < 2 ^ m
      · rw [decide_eq_true e, decide_eq_false (by omega)]; rfl
      · rw [decide_eq_false e, decide_eq_true (by omega)]; rfl
    clear h hNet hd
    go_enter Try.func37, Try.ntmps37
    go_wp2_with fail
    refine (HG.out).mono ?_
    rintro e w1 ⟨rfl, b1⟩
    go_wp2_with fail
    refine (HS.out w1 b1).mono ?_
    rintro e w2 ⟨R, k, c', rfl, b2⟩
    go_wp2_with fail
    go_ret2
    exact ⟨by rw [HD.out]; rfl, b1.trans (b2.mono b1.size)⟩

end Go.Proofs.Yteiibneaihdmbaa
