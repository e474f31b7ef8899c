/- InsertionNetwork, the model's. -/
import Derived.Test.YteiibneaihdmbaaSo2
import Derived.Test.YteiibneaihdmbaaBitsAll
import Derived.Deep.DeepCutAuto
namespace Go.Proofs.Yteiibneaihdmbaa
open Go Go.RowKit
set_option maxRecDepth 100000

theorem insRow_next {k i : Nat} (h : i + 1 ≤ k) : insRow k (k - (i + 1)) ++ [((i : Int), (i : Int) + 1)] = insRow k (k - i) := by
  rw [show k - i = (k - (i + 1)) + 1 by omega, insRow]
  congr 2
  · rw [Prod.mk.injEq]
    constructor <;> omega
theorem insTo_le : ∀ k, k ≤ 12 → (insTo k).length ≤ 12 * k
  | 0, _ => Nat.le_refl _
  | k + 1, h => by have := insTo_le k (by omega); rw [insTo, List.length_append, insRow_length]; omega
theorem ins_le {k i : Nat} (hk : k ≤ 12) : (insTo k ++ insRow k (k - i)).length ≤ 156 := by
  have := insTo_le k hk
  rw [List.length_append, insRow_length]
  omega
theorem insRow_zero (k : Nat) : insTo k ++ insRow k (k - k) = insTo k := by rw [Nat.sub_self, insRow, List.append_nil]
theorem insRow_full (k : Nat) : insTo k ++ insRow k (k - 0) = insTo (k + 1) := rfl

set_option maxHeartbeats 2000000 in
theorem spec_InsertionNetwork (x : Int) (rs : List St) (rb : Bool) (w : World) (_hx : I64 x) (hM : m_InsertionNetwork x = (rs, rb)) :
    Calls Try.prog 45 #[.int .i64 x] w fun e w' => ∃ R k c', e = .returned (.tuple #[.slice R k c', .bool rb]) ∧ HasT w' R k rs ∧ k ≤ 1048576 ∧ Below w.heap.size w w' := by
  have HM := Lib.hid hM
  obtain ⟨y, hy⟩ : ∃ y, (decide (1 ≤ x) && decide (x ≤ 12)) = y := ⟨_, rfl⟩
  have HI := Lib.hid (l1In_any x 1 12 y w hy)
  have HY := Lib.hid hy
  clear hM hy
  cases y with
  | false =>
    have hR : [] = rs ∧ false = rb := by
      have := HM.out
      rw [m_InsertionNetwork, if_neg (by intro h; have := HY.out; rw [decide_eq_true h.1, decide_eq_true h.2.1] at this; cases this)] at this
      injection this with a b
      exact ⟨a, b⟩
    obtain ⟨rfl, rfl⟩ := hR
    go_enter Try.func45, Try.ntmps45
    go_wp2_with fail
    refine (HI.out).mono ?_
    rintro e w1 ⟨rfl, rfl⟩
    go_wp2_with fail
    go_ret2
    exact ⟨none, 0, 0, rfl, HasT.nil_, by omega, Below.refl _ _⟩
  | true =>
    obtain ⟨N, rfl, n1, n12⟩ : ∃ N : Nat, x = (N : Int) ∧ 1 ≤ N ∧ N ≤ 12 := by
      have := HY.out
      rw [Bool.and_eq_true, decide_eq_true_eq, decide_eq_true_eq] at this
      exact ⟨x.toNat, by omega, by omega, by omega⟩
    have HR : Hid (if (insTo N).length ≤ 60 then insTo N = rs ∧ true = rb else [] = rs ∧ false = rb) := by
      have := HM.out
      rw [m_InsertionNetwork, Int.toNat_natCast] at this
      show ite _ _ _
      by_cases e : (insTo N).length ≤ 60
      · rw [if_pos ⟨by omega, by omega, e⟩] at this
        rw [if_pos e]
        injection this with a b
        exact ⟨a, b⟩
      · rw [if_neg (fun h => e h.2.2)] at this
        rw [if_neg e]
        injection this with a b
        exact ⟨a, b⟩
    clear HM HY
    go_enter Try.func45, Try.ntmps45
    go_wp2_with fail
    refine (HI.out).mono ?_
    rintro e w1 ⟨rfl, rfl⟩
    go_wp2_with fail
    go_loopw [4, 5, 6] (fun vv kv _ wr => ∃ (k q c' : Nat) (R : Option Addr), 1 ≤ k ∧ k ≤ N ∧ kv = .int .i64 k ∧ vv = .slice R q c' ∧ OwnT wr w.heap.size R q c' (insTo k) ∧ Below w.heap.size w wr) (fun _ kv _ _ => N - (intOf kv).toNat)
    case atStart => exact ⟨1, 0, 0, none, Nat.le_refl _, n1, rfl, rfl, OwnT.nil_ _ _, Below.refl _ _⟩
    case round =>
      obtain ⟨k, q, c', R, k1, hk, rfl, rfl, ho, bk⟩ := hrel
      by_cases hlt : k < N
      · have q0 : (0 : Int) ≤ (k : Int) := by omega
        have q1 : (k : Int) < (N : Int) := by omega
        rw [← insRow_zero k] at ho
        go_wp2_with fail
        go_loopw [4, 6] (fun vv iv wq => ∃ (i q c' : Nat) (R : Option Addr), i ≤ k ∧ iv = .int .i64 i ∧ vv = .slice R q c' ∧ OwnT wq w.heap.size R q c' (insTo k ++ insRow k (k - i)) ∧ Below w.heap.size w wq) (fun _ iv _ => (intOf iv).toNat)
        case atStart => exact ⟨k, q, c', R, Nat.le_refl _, rfl, rfl, ho, bk⟩
        case round =>
          obtain ⟨i, q, c', R, hi, rfl, rfl, ho, bq⟩ := hrel
          by_cases h1 : 1 ≤ i
          · obtain ⟨j, rfl⟩ : ∃ j, i = j + 1 := ⟨i - 1, by omega⟩
            have j0 : (0 : Int) ≤ (j : Int) := by omega
            have hq : q ≤ 156 := by rw [← ho.1]; exact ins_le (by omega)
            have hS := bq.size
            have HX : Hid ((insTo k ++ insRow k (k - (j + 1))) ++ [((j : Int), (j : Int) + 1)] = insTo k ++ insRow k (k - j)) := by show _ = _; rw [List.append_assoc, insRow_next hi]
            go_wp2_with (at_builtin; refine appendStep wr rfl (.tmp 20) (.tmp 25) rfl (j : Int) ((j : Int) + 1) w.heap.size R q c' _ rfl rfl ho (by omega) hS ?_; intro R2 c2 w2 o2 b2 _)
            rw [HX.out] at o2
            go_roundw
            case rel => exact ⟨j, q + 1, c2, R2, by omega, by go_num, rfl, o2, bq.trans b2⟩
            case measure => simp [intOf]
          · obtain rfl : i = 0 := by omega
            rw [insRow_full] at ho
            go_wp2_with fail
            go_roundw
            case rel => exact ⟨k + 1, q, c', R, by omega, by omega, by go_num, rfl, ho, bq⟩
            case measure => simp [intOf]; omega
      · obtain rfl : k = N := by omega
        have hq : (insTo k).length = q := ho.1
        have HR2 := HR.out
        rw [hq] at HR2
        have HR3 := Lib.hid HR2
        have HO := Lib.hid ho
        have hq2 : q ≤ 156 := by rw [← hq]; have := insTo_le k n12; omega
        clear HR2 HR hq ho
        by_cases h60 : q ≤ 60
        · obtain ⟨h1, h2⟩ : insTo k = rs ∧ true = rb := by have := HR3.out; rw [if_pos h60] at this; exact this
          subst h2
          have H1 := Lib.hid h1
          have hd : decide ((60 : Int) < (q : Int)) = false := decide_eq_false (by omega)
          clear h1 h60
          go_wp2_with fail
          go_ret2
          exact ⟨R, q, ⟨c', rfl⟩, by rw [← H1.out]; exact HO.out.has, by omega, bk⟩
        · obtain ⟨h1, h2⟩ : [] = rs ∧ false = rb := by have := HR3.out; rw [if_neg h60] at this; exact this
          subst h2
          subst h1
          have hd : decide ((60 : Int) < (q : Int)) = true := decide_eq_true (by omega)
          clear h60
          go_wp2_with fail
          go_ret2
          exact ⟨none, 0, ⟨0, rfl⟩, HasT.nil_, by omega, bk⟩

end Go.Proofs.Yteiibneaihdmbaa
