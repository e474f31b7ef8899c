/- The program's MergeNetwork. -/
import Derived.Test.YteiibneaihdmbaaSoI3
import Derived.Test.YteiibneaihdmbaaSoG6
namespace Go.Proofs.Yteiibneaihdmbaa
open Go Go.RowKit
set_option maxRecDepth 100000

theorem mrg_all : ∀ n : Nat, n < 13 → 1 ≤ n → netB (n : Int) (mrgN n) = true := by decide +kernel
/-- The greatest power of two below n; 0 for 1. -/
def pwB (n : Nat) : Nat := if n ≤ 1 then 0 else topOf n

set_option maxHeartbeats 2000000 in
theorem powerBelow_any (n : Nat) (w : World) (h1 : 1 ≤ n) (h12 : n ≤ 12) :
    Calls Try.prog 101 #[.int .i64 (n : Int)] w fun e w' => e = .returned (.int .i64 (pwB n : Int)) ∧ w = w' := by
  go_enter Try.func101, Try.ntmps101
  go_wp2_with fail
  go_loop [3, 4] (fun bv pv => ∃ b p : Nat, p ≤ 16 ∧ 1 ≤ p ∧ Hid ((p = 1 ∧ b = 0) ∨ (p = 2 ∧ b = 1 ∧ 1 < n) ∨ (p = 4 ∧ b = 2 ∧ 2 < n) ∨ (p = 8 ∧ b = 4 ∧ 4 < n) ∨ (p = 16 ∧ b = 8 ∧ 8 < n)) ∧ bv = .int .i64 b ∧ pv = .int .i64 p) (fun _ pv => 32 - (intOf pv).toNat)
  case atStart => exact ⟨0, 1, by omega, by omega, .inl ⟨rfl, rfl⟩, rfl, rfl⟩
  case round =>
    obtain ⟨b, p, p16, p1, HP, rfl, rfl⟩ := hrel
    by_cases hlt : p < n
    · have c1 : (p : Int) < (n : Int) := by omega
      have HN : Hid ((2 * p = 1 ∧ p = 0) ∨ (2 * p = 2 ∧ p = 1 ∧ 1 < n) ∨ (2 * p = 4 ∧ p = 2 ∧ 2 < n) ∨ (2 * p = 8 ∧ p = 4 ∧ 4 < n) ∨ (2 * p = 16 ∧ p = 8 ∧ 8 < n)) := by
        have := HP.out
        show _ ∨ _
        omega
      have p8 : 2 * p ≤ 16 := by have := HN.out; omega
      go_wp2_with fail
      go_round
      case rel => exact ⟨p, 2 * p, p8, by omega, HN, rfl, by go_num⟩
      case measure => simp [intOf]; omega
    · have HB : Hid (b = pwB n) := by
        have := HP.out
        show _ = _
        unfold pwB topOf
        repeat' split
        all_goals omega
      go_wp2_with fail
      go_ret
      exact ⟨retI (by rw [HB.out]), rfl⟩

set_option maxHeartbeats 2000000 in
theorem stepsApart_any (n d p r : Nat) (w : World) (h12 : n ≤ 12) (hd : d ≤ n) (hp : p ≤ 8) :
    Calls Try.prog 102 #[.int .i64 (n : Int), .int .i64 (d : Int), .int .i64 (p : Int), .int .i64 (r : Int)] w fun e w' => ∃ R k c', e = .returned (.slice R k c') ∧ OwnT w' w.heap.size R k c' (apS n d p r) ∧ Below w.heap.size w w' := by
  obtain ⟨m, hm⟩ : ∃ m, m = n - d := ⟨_, rfl⟩
  have hmi : (n : Int) - (d : Int) = (m : Int) := by omega
  have hw : IntKind.i64.wrap ((n : Int) - (d : Int)) = (m : Int) := by rw [hmi]; exact wrapIn (by omega) (by omega)
  have HM := Lib.hid hm
  have hm12 : m ≤ 12 := by omega
  have HW := Lib.hid hmi
  clear hm hmi hw
  go_enter Try.func102, Try.ntmps102
  go_wp2_with fail
  rw [HW.out]
  go_loopw [9, 14] (fun vv iv wr => ∃ (i k c' : Nat) (R : Option Addr), i ≤ m ∧ iv = .int .i64 i ∧ vv = .slice R k c' ∧ OwnT wr w.heap.size R k c' (apTo d p r i) ∧ Below w.heap.size w wr) (fun _ iv _ => m - (intOf iv).toNat)
  case atStart => exact ⟨0, 0, 0, none, Nat.zero_le _, rfl, rfl, OwnT.nil_ _ _, Below.refl _ _⟩
  case round =>
    obtain ⟨i, k, c', R, hi, rfl, rfl, ho, bk⟩ := hrel
    by_cases hlt : i < m
    · have i1 : (i : Int) < (m : Int) := by omega
      have hk : k ≤ 12 := by rw [← ho.1]; have := apTo_length d p r i; omega
      obtain ⟨z, hz⟩ : ∃ z, i &&& p = z := ⟨_, rfl⟩
      have hand : bits .and .i64 (i : Int) (p : Int) = (z : Int) := by rw [bitsAnd (by omega) (by omega), hz]
      have HZ := Lib.hid hz
      have sj := bk.size
      clear hz
      by_cases hzr : z = r
      · subst hzr
        have HX : Hid (apTo d p z i ++ [((i : Int), (i : Int) + (d : Int))] = apTo d p z (i + 1)) := by show _ = _; rw [apTo, if_pos HZ.out]
        go_wp2_with (at_builtin; refine appendStep wr rfl (.tmp 22) (.tmp 28) rfl (i : Int) ((i : Int) + (d : Int)) w.heap.size R k c' _ rfl rfl ho (by omega) sj ?_; intro R6 c6 w6 o6 b6 _)
        rw [HX.out] at o6
        go_roundw
        case rel => exact ⟨i + 1, k + 1, c6, R6, by omega, by go_num, rfl, o6, bk.trans b6⟩
        case measure => simp [intOf]; omega
      · have HX : Hid (apTo d p r (i + 1) = apTo d p r i) := by show _ = _; rw [apTo, if_neg (by rw [HZ.out]; exact hzr)]
        have hzi : ¬ (z : Int) = (r : Int) := by omega
        have hzb : ((z : Int) == (r : Int)) = false := by simpa using hzi
        go_wp2_with fail
        go_roundw
        case rel => exact ⟨i + 1, k, c', R, by omega, by go_num, rfl, by rw [HX.out]; exact ho, bk⟩
        case measure => simp [intOf]; omega
    · obtain rfl : i = m := by omega
      go_wp2_with fail
      go_ret
      exact ⟨R, k, c', rfl, by rw [apS, ← HM.out]; exact ho, bk⟩

set_option maxRecDepth 100000 in
set_option maxHeartbeats 4000000 in
theorem impl_MergeNetwork (x : Int) (rs : List St) (rb : Bool) (w : World) (_hx : I64 x) (hM : m_MergeNetwork x = (rs, rb)) :
    Calls Try.prog 49 #[.int .i64 x] w fun e w' => ∃ R k c', e = .returned (.tuple #[.slice R k c', .bool rb]) ∧ OwnT w' w.heap.size R k c' rs ∧ k ≤ 1048576 ∧ Below w.heap.size w w' := by
  obtain ⟨y, hy⟩ : ∃ y, (decide (1 ≤ x) && decide (x ≤ 12)) = y := ⟨_, rfl⟩
  have HI := Lib.hid (isLineCount_any x y w hy)
  have HM := Lib.hid hM
  have HY := Lib.hid hy
  clear hM hy
  cases y with
  | false =>
    have hR : [] = rs ∧ false = rb := by
      have := HM.out
      rw [m_MergeNetwork, if_neg (by intro h; have := HY.out; rw [decide_eq_true h.1, decide_eq_true h.2] at this; cases this)] at this
      injection this with a b
      exact ⟨a, b⟩
    obtain ⟨rfl, rfl⟩ := hR
    go_enter Try.func49, Try.ntmps49
    go_wp2_with fail
    refine (HI.out).mono ?_
    rintro e w1 ⟨rfl, rfl⟩
    go_wp2_with fail
    go_ret2
    exact ⟨none, 0, 0, rfl, OwnT.nil_ _ _, by omega, Below.refl _ _⟩
  | true =>
    obtain ⟨n, rfl, n1, n12⟩ : ∃ N : Nat, x = (N : Int) ∧ 1 ≤ N ∧ N ≤ 12 := by
      have := HY.out
      rw [Bool.and_eq_true, decide_eq_true_eq, decide_eq_true_eq] at this
      exact ⟨x.toNat, by omega, by omega, by omega⟩
    have hR : mrgN n = rs ∧ true = rb := by
      have := HM.out
      rw [m_MergeNetwork, if_pos ⟨by omega, by omega⟩, Int.toNat_natCast] at this
      injection this with a b
      exact ⟨a, b⟩
    obtain ⟨rfl, rfl⟩ := hR
    have hT := Lib.hid (mrg_len n (by omega))
    have HNet := Lib.hid (mrg_all n (by omega) n1)
    obtain ⟨t, ht⟩ : ∃ t, pwB n = t := ⟨_, rfl⟩
    have HPB := Lib.hid (powerBelow_any n w n1 n12)
    rw [ht] at HPB
    have HTP : Hid (t = 0 ∨ Pw t) := by
      show _ ∨ _
      rw [← ht]
      unfold pwB topOf Pw
      repeat' split
      all_goals omega
    have htn : t < n := by
      rw [← ht]
      unfold pwB topOf
      repeat' split
      all_goals omega
    have t8 : t ≤ 8 := by have := HTP.out; unfold Pw at this; omega
    have HM0 : Hid ([] ++ mrgP n t t t = mrgN n) := by
      show _ = _
      rw [List.nil_append, mrgN, ← ht, pwB]
      split
      · exact mrgP_zero _ _ _
      · rfl
    clear ht
    go_enter Try.func49, Try.ntmps49
    go_wp2_with fail
    refine (HI.out).mono ?_
    rintro e w1 ⟨rfl, rfl⟩
    go_wp2_with fail
    refine (HPB.out).mono ?_
    rintro e w1 ⟨rfl, rfl⟩
    go_wp2_with fail
    go_loopw [4, 6, 7] (fun vv pv _ wr => ∃ (p f q c' : Nat) (R : Option Addr) (L : List St), p ≤ t ∧ p ≤ f ∧ Hid (p = 0 ∨ Pw p) ∧ pv = .int .i64 p ∧ vv = .slice R q c' ∧ OwnT wr w.heap.size R q c' L ∧ Hid (L ++ mrgP n t f p = mrgN n) ∧ Below w.heap.size w wr) (fun _ pv _ _ => (intOf pv).toNat)
    case atStart => exact ⟨t, t, 0, 0, none, [], Nat.le_refl _, Nat.le_refl _, HTP.out, rfl, rfl, OwnT.nil_ _ _, HM0, Below.refl _ _⟩
    case round =>
      obtain ⟨p, f, q, c', R, L, hpt, hpf, HPp, rfl, rfl, ho, HE, bk⟩ := hrel
      by_cases p1 : 1 ≤ p
      · obtain ⟨g, hg, hE⟩ := mrgP_next (n := n) (t := t) p1 hpf
        have HE2 : Hid ((L ++ (apS n p p 0 ++ restQ n p t t)) ++ mrgP n t g (p / 2) = mrgN n) := by show _ = _; rw [List.append_assoc, ← hE]; exact HE.out
        have hpw : Hid (Pw p) := by show Pw p; rcases HPp.out with h0 | h0; exact absurd h0 (by omega); exact h0
        obtain ⟨S, hS⟩ : ∃ S, L ++ (apS n p p 0 ++ restQ n p t t) = S := ⟨_, rfl⟩
        rw [hS] at HE2
        have HSL : Hid (S.length ≤ 60) := len_of HE2.out hT.out
        have HS0 : Hid ((L ++ apS n p p 0) ++ restQ n p t t = S) := by show _ = _; rw [List.append_assoc]; exact hS
        have hq : q ≤ 60 := by rw [← ho.1]; exact len_of hS HSL.out
        have HSA := Lib.hid (stepsApart_any n p p 0 wr n12 (by omega) (by omega))
        have HO := Lib.hid ho
        have htw : Hid (Pw t) := by show Pw t; rcases HTP.out with h0 | h0; exact absurd h0 (by omega); exact h0
        clear hE hS HE HPp ho
        go_wp2_with fail
        refine (HSA.out).mono ?_
        rintro e w2 ⟨R2, k2, c2, rfl, o2, b2⟩
        have hk2 : k2 ≤ 12 := by rw [← o2.1]; have := apTo_length p p 0 (n - p); unfold apS; omega
        have B2 := bk.trans (b2.mono bk.size)
        go_wp2_with (at_builtin; refine appendSteps w2 rfl (.tmp 18) (.tmp 22) rfl w.heap.size R R2 q c' k2 c2 L _ rfl (HO.out.below b2) rfl o2.nilOk o2.has (by omega) (by omega) B2.size ?_; intro R3 c3 w3 o3 b3 _)
        have B3 := B2.trans b3
        have HO3 := Lib.hid o3
        clear o2 o3 b2 b3 bk B2 HSA
        go_loopw [4, 7] (fun vv qv wr => ∃ (q' f' k c' : Nat) (R : Option Addr) (L : List St), q' ≤ t ∧ p ≤ q' ∧ q' ≤ f' ∧ Hid (Pw q') ∧ qv = .int .i64 q' ∧ vv = .slice R k c' ∧ OwnT wr w.heap.size R k c' L ∧ Hid (L ++ restQ n p f' q' = S) ∧ Below w.heap.size w wr) (fun _ qv _ => (intOf qv).toNat)
        case atStart => exact ⟨t, t, q + k2, c3, R3, _, Nat.le_refl _, hpt, Nat.le_refl _, htw, rfl, rfl, HO3.out, HS0, B3⟩
        case round =>
          obtain ⟨q', f', k, c', R, L, hqt, hpq, hqf, HPq, rfl, rfl, ho, HE, bk⟩ := hrel
          have hk : k ≤ 60 := by rw [← ho.1]; exact len_of HE.out HSL.out
          have HO := Lib.hid ho
          clear ho
          by_cases hqp : q' = p
          · subst hqp
            have HF : Hid (L = S) := by show _ = _; rw [← HE.out, restQ_done, List.append_nil]
            have HPz : Hid (q' / 2 = 0 ∨ Pw (q' / 2)) := by
              have := hpw.out
              show _ ∨ _
              unfold Pw at *
              omega
            go_wp2_with fail
            go_roundw
            case rel => exact ⟨q' / 2, g, k, c', R, S, by omega, hg, HPz, by go_num, rfl, by rw [← HF.out]; exact HO.out, HE2.out, bk⟩
            case measure => simp [intOf]; omega
          · obtain ⟨g', hg', hR⟩ := restQ_next (n := n) (p := p) hqp (by omega) hqf
            have HF : Hid ((L ++ apS n (q' - p) p p) ++ restQ n p g' (q' / 2) = S) := by show _ = _; rw [← HE.out, hR, List.append_assoc]
            have hH := halfPw HPq.out hpw.out hpq hqp
            have HH1 : Hid (Pw (q' / 2)) := hH.1
            have hH2 := hH.2
            have hqi : ¬ (q' : Int) = (p : Int) := by omega
            have hqb : ((q' : Int) != (p : Int)) = true := by simpa using hqi
            have ed : ((q' : Int) - (p : Int)) = ((q' - p : Nat) : Int) := by omega
            have HSA := Lib.hid (stepsApart_any n (q' - p) p p wr n12 (by omega) (by omega))
            rw [← ed] at HSA
            clear hR hH ed
            go_wp2_with fail
            refine (HSA.out).mono ?_
            rintro e w2 ⟨R2, k2, c2, rfl, o2, b2⟩
            have hk2 : k2 ≤ 12 := by rw [← o2.1]; have := apTo_length (q' - p) p p (n - (q' - p)); unfold apS; omega
            have B2 := bk.trans (b2.mono bk.size)
            go_wp2_with (at_builtin; refine appendSteps w2 rfl (.tmp 30) (.tmp 37) rfl w.heap.size R R2 k c' k2 c2 L _ rfl (HO.out.below b2) rfl o2.nilOk o2.has (by omega) (by omega) B2.size ?_; intro R3 c3 w3 o3 b3 _)
            go_roundw
            case rel => exact ⟨q' / 2, g', k + k2, c3, R3, _, by omega, hH2, hg', HH1, by go_num, rfl, o3, HF, B2.trans b3⟩
            case measure => simp [intOf]; omega
      · obtain rfl : p = 0 := by omega
        have HF : Hid (L = mrgN n) := by
          have := HE.out
          rw [mrgP_zero, List.append_nil] at this
          exact this
        have hq : q ≤ 60 := by rw [← ho.1, HF.out]; exact hT.out
        have HV := Lib.hid (validNetwork_any n R q c' L wr ho.has (by omega) n1 true (by rw [HF.out]; exact HNet.out))
        have HO := Lib.hid ho
        clear ho
        go_wp2_with fail
        refine (HV.out).mono ?_
        rintro e w2 ⟨rfl, b2⟩
        go_wp2_with fail
        go_ret2
        exact ⟨R, q, c', rfl, by rw [← HF.out]; exact HO.out.below b2, by omega, bk.trans (b2.mono bk.size)⟩

end Go.Proofs.Yteiibneaihdmbaa
