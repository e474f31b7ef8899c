/- The merge exchange network: mathematics, and the model's soMerge, MergeNetwork. -/
import Derived.Test.YteiibneaihdmbaaSo2
import Derived.Test.YteiibneaihdmbaaBitsAll
import Derived.Test.YteiibneaihdmbaaBitI
import Derived.Deep.DeepCutAuto
namespace Go.Proofs.Yteiibneaihdmbaa
open Go Go.RowKit
set_option maxRecDepth 100000

/-- The steps of the lines k and k + d for k < i for which k and p together is r. -/
def apTo (d p r : Nat) : Nat → List St
  | 0 => []
  | i + 1 => if i &&& p = r then apTo d p r i ++ [((i : Int), (i : Int) + (d : Int))] else apTo d p r i
def apS (n d p r : Nat) : List St := apTo d p r (n - d)
/-- What is made behind the first steps of a pass. -/
def restQ (n p : Nat) : Nat → Nat → List St
  | 0, _ => []
  | f + 1, q => if q = p then [] else apS n (q - p) p p ++ restQ n p f (q / 2)
def mrgP (n t : Nat) : Nat → Nat → List St
  | 0, _ => []
  | f + 1, p => if p = 0 then [] else (apS n p p 0 ++ restQ n p t t) ++ mrgP n t f (p / 2)
def topOf (n : Nat) : Nat := if n ≤ 2 then 1 else if n ≤ 4 then 2 else if n ≤ 8 then 4 else 8
def mrgN (n : Nat) : List St := if n ≤ 1 then [] else mrgP n (topOf n) (topOf n) (topOf n)
def m_MergeNetwork (n : Int) : List St × Bool := if 1 ≤ n ∧ n ≤ 12 then (mrgN n.toNat, true) else ([], false)
theorem mrg_len : ∀ n : Nat, n < 13 → (mrgN n).length ≤ 60 := by decide +kernel
theorem apTo_length (d p r : Nat) : ∀ i, (apTo d p r i).length ≤ i
  | 0 => Nat.le_refl _
  | i + 1 => by have := apTo_length d p r i; rw [apTo]; split <;> simp <;> omega
/-- A power of two up to 8. -/
def Pw (t : Nat) : Prop := t = 1 ∨ t = 2 ∨ t = 4 ∨ t = 8
theorem mrgP_zero (n t f : Nat) : mrgP n t f 0 = [] := by cases f <;> simp [mrgP]
theorem mrgP_next {n t f p : Nat} (h : 1 ≤ p) (hf : p ≤ f) : ∃ g, p / 2 ≤ g ∧ mrgP n t f p = (apS n p p 0 ++ restQ n p t t) ++ mrgP n t g (p / 2) := by
  obtain ⟨g, rfl⟩ : ∃ g, f = g + 1 := ⟨f - 1, by omega⟩
  exact ⟨g, by omega, by rw [mrgP, if_neg (by omega)]⟩
theorem restQ_next {n p f q : Nat} (h : q ≠ p) (h1 : 1 ≤ q) (hf : q ≤ f) : ∃ g, q / 2 ≤ g ∧ restQ n p f q = apS n (q - p) p p ++ restQ n p g (q / 2) := by
  obtain ⟨g, rfl⟩ : ∃ g, f = g + 1 := ⟨f - 1, by omega⟩
  exact ⟨g, by omega, by rw [restQ, if_neg h]⟩
theorem restQ_done {n p f : Nat} : restQ n p f p = [] := by cases f <;> simp [restQ]
theorem halfPw {q p : Nat} (hq : Pw q) (hp : Pw p) (hle : p ≤ q) (hne : q ≠ p) : Pw (q / 2) ∧ p ≤ q / 2 := by
  unfold Pw at *
  omega
theorem len_of {L M T : List St} (h : L ++ M = T) (hT : T.length ≤ 60) : L.length ≤ 60 := by
  have := congrArg List.length h
  rw [List.length_append] at this
  omega
theorem quoTwo (q : Nat) : ((q : Int) / 2) = ((q / 2 : Nat) : Int) := by omega

set_option maxRecDepth 100000 in
set_option maxHeartbeats 4000000 in
theorem soMerge_any (n : Nat) (w : World) (h1 : 1 ≤ n) (h12 : n ≤ 12) :
    Calls Try.prog 100 #[.int .i64 (n : Int)] w fun e w' => ∃ R k c', e = .returned (.slice R k c') ∧ OwnT w' w.heap.size R k c' (mrgN n) ∧ Below w.heap.size w w' := by
  have hT := Lib.hid (mrg_len n (by omega))
  go_enter Try.func100, Try.ntmps100
  go_wp2_with fail
  go_loop [4] (fun tv => ∃ t : Nat, Hid (Pw t) ∧ 1 ≤ t ∧ t ≤ 8 ∧ Hid (t = 1 ∨ t < n) ∧ tv = .int .i64 t) (fun tv => 12 - (intOf tv).toNat)
  case atStart => exact ⟨1, .inl rfl, Nat.le_refl _, by omega, .inl rfl, rfl⟩
  case round =>
    obtain ⟨t, HP, t1, t8, HT, rfl⟩ := hrel
    by_cases hlt : 2 * t < n
    · have q1 : 2 * (t : Int) < (n : Int) := by omega
      have HP2 : Hid (Pw (2 * t)) := by
        have := HP.out
        show Pw _
        unfold Pw at *
        omega
      have h8 : 2 * t ≤ 8 := by have := HP2.out; unfold Pw at this; omega
      go_wp2_with fail
      go_round
      case rel => exact ⟨2 * t, HP2, by omega, h8, .inr hlt, by go_num⟩
      case measure => simp [intOf]; omega
    · have hTop : Hid (t = topOf n) := by
        show _ = _
        have a := HP.out
        have b := HT.out
        unfold Pw at a
        unfold topOf
        repeat' split
        all_goals omega
      have HTN : Hid (n = 1 ∨ t < n) := by
        show _ ∨ _
        have := HT.out
        omega
      have q1 : ¬ 2 * (t : Int) < (n : Int) := by omega
      clear HT
      go_wp2_with fail
      clear q1 hlt
      obtain ⟨f0, hf0⟩ : ∃ f0, f0 = t := ⟨_, rfl⟩
      have HM0 : Hid (2 ≤ n → [] ++ mrgP n t t t = mrgN n) := fun h2 => by rw [mrgN, if_neg (by omega), ← hTop.out]; rfl
      clear hf0 f0
      go_loopw [3, 5] (fun vv pv wr => ∃ (p f q c' : Nat) (R : Option Addr) (L : List St), p ≤ 8 ∧ p ≤ f ∧ Hid (p = 0 ∨ Pw p) ∧ p ≤ t ∧ pv = .int .i64 p ∧ vv = .slice R q c' ∧ OwnT wr w.heap.size R q c' L ∧ Hid (2 ≤ n → L ++ mrgP n t f p = mrgN n) ∧ Hid (n = 1 → L = []) ∧ Below w.heap.size w wr) (fun _ pv _ => (intOf pv).toNat)
      case atStart => exact ⟨t, t, 0, 0, none, [], t8, Nat.le_refl _, .inr HP.out, Nat.le_refl _, rfl, rfl, OwnT.nil_ _ _, HM0, fun _ => rfl, Below.refl _ _⟩
      case round =>
        obtain ⟨p, f, q, c', R, L, p8, hpf, HPp, hpt, rfl, rfl, ho, HE, HE1, bk⟩ := hrel
        by_cases hc : 1 ≤ p ∧ 2 ≤ n
        · obtain ⟨p1, n2⟩ := hc
          have c1 : (0 : Int) < (p : Int) := by omega
          have c2 : (1 : Int) < (n : Int) := by omega
          obtain ⟨g, hg, hE⟩ := mrgP_next (n := n) (t := t) p1 hpf
          have HE2 : Hid ((L ++ (apS n p p 0 ++ restQ n p t t)) ++ mrgP n t g (p / 2) = mrgN n) := by show _ = _; rw [List.append_assoc, ← hE]; exact HE.out n2
          have hpw : Hid (Pw p) := by show Pw p; rcases HPp.out with h0 | h0; exact absurd h0 (by omega); exact h0
          obtain ⟨S, hS⟩ : ∃ S, L ++ (apS n p p 0 ++ restQ n p t t) = S := ⟨_, rfl⟩
          rw [hS] at HE2
          have HS0 : Hid (L ++ (apS n p p 0 ++ restQ n p t t) = S) := hS
          have HSL : Hid (S.length ≤ 60) := len_of HE2.out hT.out
          have htn : t < n := by have := HTN.out; omega
          have hdn : p < n := by omega
          clear hE hS HE HE1 HPp
          go_wp2_with fail
          go_loopw [3, 6, 7, 8] (fun vv qv rv dv wr => ∃ (q' r d f' k c' : Nat) (R : Option Addr) (L : List St), q' ≤ t ∧ p ≤ q' ∧ q' ≤ f' ∧ d < n ∧ Hid (Pw q') ∧ qv = .int .i64 q' ∧ rv = .int .i64 r ∧ dv = .int .i64 d ∧ vv = .slice R k c' ∧ OwnT wr w.heap.size R k c' L ∧ Hid (L ++ (apS n d p r ++ restQ n p f' q') = S) ∧ Below w.heap.size w wr) (fun _ qv _ _ _ => (intOf qv).toNat)
          case atStart => exact ⟨t, 0, p, t, q, c', R, L, Nat.le_refl _, hpt, Nat.le_refl _, hdn, HP.out, rfl, rfl, rfl, rfl, ho, HS0, bk⟩
          case round =>
            obtain ⟨q', r, d, f', k, c', R, L, q8, hpq, hqf, hdn, HPq, rfl, rfl, rfl, rfl, ho, HE, bk⟩ := hrel
            have hk : k ≤ 60 := by rw [← ho.1]; exact len_of HE.out HSL.out
            have HL0 : Hid (L ++ apTo d p r 0 = L) := List.append_nil _
            rw [← HL0.out] at ho
            go_wp2_with fail
            go_loopw [3, 9] (fun vv iv wr => ∃ (i k c' : Nat) (R : Option Addr), i ≤ n - d ∧ iv = .int .i64 i ∧ vv = .slice R k c' ∧ OwnT wr w.heap.size R k c' (L ++ apTo d p r i) ∧ Below w.heap.size w wr) (fun _ iv _ => n - (intOf iv).toNat)
            case atStart => exact ⟨0, k, c', R, Nat.zero_le _, rfl, rfl, ho, bk⟩
            case round =>
              obtain ⟨i, k', c', R, hi, rfl, rfl, ho, bk⟩ := hrel
              by_cases hlt : i < n - d
              · have i1 : (i : Int) < (n : Int) - (d : Int) := by omega
                have hk' : k' ≤ 80 := by
                  rw [← ho.1, List.length_append]
                  have a := apTo_length d p r i
                  have b := len_of HE.out HSL.out
                  omega
                obtain ⟨z, hz⟩ : ∃ z, i &&& p = z := ⟨_, rfl⟩
                have hand : bits .and .i64 (i : Int) (p : Int) = (z : Int) := by rw [bitsAnd (by omega) (by omega), hz]
                have HZ := Lib.hid hz
                have sj := bk.size
                clear hz
                by_cases hzr : z = r
                · subst hzr
                  have HX : Hid ((L ++ apTo d p z i) ++ [((i : Int), (i : Int) + (d : Int))] = L ++ apTo d p z (i + 1)) := by show _ = _; rw [apTo, if_pos HZ.out, List.append_assoc]
                  go_wp2_with (at_builtin; refine appendStep wr rfl (.tmp 39) (.tmp 45) rfl (i : Int) ((i : Int) + (d : Int)) w.heap.size R k' c' _ rfl rfl ho (by omega) sj ?_; intro R6 c6 w6 o6 b6 _)
                  rw [HX.out] at o6
                  go_roundw
                  case rel => exact ⟨i + 1, k' + 1, c6, R6, by omega, by go_num, rfl, o6, bk.trans b6⟩
                  case measure => simp [intOf]; omega
                · have HX : Hid (apTo d p r (i + 1) = apTo d p r i) := by show _ = _; rw [apTo, if_neg (by rw [HZ.out]; exact hzr)]
                  have hzi : ¬ (z : Int) = (r : Int) := by omega
                  have hzb : ((z : Int) == (r : Int)) = false := by simpa using hzi
                  go_wp2_with fail
                  go_roundw
                  case rel => exact ⟨i + 1, k', c', R, by omega, by go_num, rfl, by rw [HX.out]; exact ho, bk⟩
                  case measure => simp [intOf]; omega
              · obtain rfl : i = n - d := by omega
                have i1 : ¬ ((n - d : Nat) : Int) < (n : Int) - (d : Int) := by omega
                have ho' : OwnT wr w.heap.size R k' c' (L ++ apS n d p r) := ho
                have HO := Lib.hid ho'
                clear ho ho'
                by_cases hqp : q' = p
                · subst hqp
                  have HPz : Hid (q' / 2 = 0 ∨ Pw (q' / 2)) := by
                    have := hpw.out
                    show _ ∨ _
                    unfold Pw at *
                    omega
                  have HF : Hid (L ++ apS n d q' r = S) := by show _ = _; rw [← HE.out, restQ_done, List.append_nil]
                  go_wp2_with fail
                  clear i1
                  go_roundw
                  case rel => exact ⟨q' / 2, g, k', c', R, S, by omega, hg, HPz, by omega, by go_num, rfl, by rw [← HF.out]; exact HO.out, fun _ => HE2.out, fun e => absurd e (by omega), bk⟩
                  case measure => simp [intOf]; omega
                · obtain ⟨g', hg', hR⟩ := restQ_next (n := n) (p := p) hqp (by omega) hqf
                  have HF : Hid ((L ++ apS n d p r) ++ (apS n (q' - p) p p ++ restQ n p g' (q' / 2)) = S) := by show _ = _; rw [← HE.out, hR, List.append_assoc]
                  have hH := halfPw HPq.out hpw.out hpq hqp
                  have HH1 : Hid (Pw (q' / 2)) := hH.1
                  have hH2 := hH.2
                  have hqi : ¬ (q' : Int) = (p : Int) := by omega
                  have hqb : ((q' : Int) == (p : Int)) = false := by simpa using hqi
                  have hdn2 : q' - p < n := by omega
                  have ed : ((q' : Int) - (p : Int)) = ((q' - p : Nat) : Int) := by omega
                  clear hR hH
                  go_wp2_with fail
                  clear i1
                  go_roundw
                  case rel => exact ⟨q' / 2, p, q' - p, g', k', c', R, _, by omega, hH2, hg', hdn2, HH1, by go_num, rfl, by go_num, rfl, HO.out, HF, bk⟩
                  case measure => simp [intOf]; omega
        · have HF : Hid (L = mrgN n) := by
            show _ = _
            by_cases h2 : 2 ≤ n
            · have := HE.out h2
              obtain rfl : p = 0 := by omega
              rw [mrgP_zero, List.append_nil] at this
              exact this
            · obtain rfl : n = 1 := by omega
              rw [HE1.out rfl]; rfl
          have HO := Lib.hid ho
          clear ho
          by_cases p1 : 1 ≤ p
          · have c1 : (0 : Int) < (p : Int) := by omega
            have c2 : ¬ (1 : Int) < (n : Int) := by omega
            go_wp2_with fail
            go_ret
            exact ⟨R, q, c', rfl, by rw [← HF.out]; exact HO.out, bk⟩
          · obtain rfl : p = 0 := by omega
            go_wp2_with fail
            go_ret
            exact ⟨R, q, c', rfl, by rw [← HF.out]; exact HO.out, bk⟩

set_option maxHeartbeats 2000000 in
theorem spec_MergeNetwork (x : Int) (rs : List St) (rb : Bool) (w : World) (_hx : I64 x) (hM : m_MergeNetwork x = (rs, rb)) :
    Calls Try.prog 48 #[.int .i64 x] w fun e w' => ∃ R k c', e = .returned (.tuple #[.slice R k c', .bool rb]) ∧ HasT w' R k rs ∧ k ≤ 1048576 ∧ Below w.heap.size w w' := by
  obtain ⟨y, hy⟩ : ∃ y, (decide (1 ≤ x) && decide (x ≤ 12)) = y := ⟨_, rfl⟩
  have HI := Lib.hid (l1In_any x 1 12 y w hy)
  have HM := Lib.hid hM
  have HY := Lib.hid hy
  clear hM hy
  cases y with
  | false =>
    have hR : [] = rs ∧ false = rb := by
      have := HM.out
      rw [m_MergeNetwork, if_neg (by intro h; have := HY.out; rw [decide_eq_true h.1, decide_eq_true h.2] at this; cases this)] at this
      injection this with a b
      exact ⟨a, b⟩
    obtain ⟨rfl, rfl⟩ := hR
    go_enter Try.func48, Try.ntmps48
    go_wp2_with fail
    refine (HI.out).mono ?_
    rintro e w1 ⟨rfl, rfl⟩
    go_wp2_with fail
    go_ret2
    exact ⟨none, 0, 0, rfl, HasT.nil_, by omega, Below.refl _ _⟩
  | true =>
    obtain ⟨N, rfl, n1, n12⟩ : ∃ N : Nat, x = (N : Int) ∧ 1 ≤ N ∧ N ≤ 12 := by
      have := HY.out
      rw [Bool.and_eq_true, decide_eq_true_eq, decide_eq_true_eq] at this
      exact ⟨x.toNat, by omega, by omega, by omega⟩
    have hR : mrgN N = rs ∧ true = rb := by
      have := HM.out
      rw [m_MergeNetwork, if_pos ⟨by omega, by omega⟩, Int.toNat_natCast] at this
      injection this with a b
      exact ⟨a, b⟩
    obtain ⟨rfl, rfl⟩ := hR
    have HS := Lib.hid (soMerge_any N w n1 n12)
    have hT := Lib.hid (mrg_len N (by omega))
    go_enter Try.func48, Try.ntmps48
    go_wp2_with fail
    refine (HI.out).mono ?_
    rintro e w1 ⟨rfl, rfl⟩
    go_wp2_with fail
    refine (HS.out).mono ?_
    rintro e w2 ⟨R, k, c', rfl, ho, b2⟩
    have hk : k ≤ 60 := by rw [← ho.1]; exact hT.out
    have HO := Lib.hid ho
    clear ho
    go_wp2_with fail
    go_ret2
    exact ⟨R, k, c', rfl, HO.out.has, by omega, b2⟩

end Go.Proofs.Yteiibneaihdmbaa
