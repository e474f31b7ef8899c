/- The model's count of different digests. For all numbers. -/
import Derived.Test.YtjalpankapakkaaDoorDg3
import Derived.Test.YtjalpankapakkaaDoorCntMath
namespace Go.Proofs.YtjalpankapakkaaDoor
open Go.RowKit

/-- The digests of the lists of one number first, first + 1, .. -/
def dgs (first : Int) (q : Nat) : List Int := mapTo (fun i => dg [first + (i : Int)]) q
def m_CountDigests (first n : Int) : Int × Bool := if -1000000000 ≤ first ∧ first ≤ 1000000000 ∧ 0 ≤ n ∧ n ≤ 200 ∧ first + n - 1 ≤ 1000000000 then (((distinct (dgs first n.toNat)).length : Int), true) else (0, false)

theorem distinct_length_le (zs : List Int) : (distinct zs).length ≤ zs.length := by
  unfold distinct Lib.compact Lib.compactUpTo
  rw [List.length_map]
  refine Nat.le_trans (List.length_filter_le _ _) ?_
  rw [List.length_range, List.length_mergeSort]
  exact Nat.le_refl _
theorem words_just (x : Int) : words 1 [x] = (decide (-1000000000 ≤ x) && decide (x ≤ 1000000000)) := by simp [words, worded, allIn]

theorem max_any (a : Int) (w : World) (_ha : -1 ≤ a) : Calls Tryd.prog 54 #[.int .i64 a, .int .i64 0] w fun e w' => e = .returned (.int .i64 (if 0 < a then a else 0)) ∧ w = w' := by
  by_cases h : 0 < a
  · rw [if_pos h]
    go_enter Tryd.func54, Tryd.ntmps54
    go_wp2
    go_ret
    exact ⟨rfl, rfl⟩
  · rw [if_neg h]
    go_enter Tryd.func54, Tryd.ntmps54
    go_wp2
    go_ret
    exact ⟨rfl, rfl⟩

set_option maxRecDepth 100000 in
set_option maxHeartbeats 2000000 in
theorem spec_CountDigests (first n : Int) (ry : Int) (rb : Bool) (w : World) (_hf : I64 first) (hn : I64 n) (hm : m_CountDigests first n = (ry, rb)) :
    Calls Tryd.prog 28 #[.int .i64 first, .int .i64 n] w fun e w' => e = .returned (.tuple #[.int .i64 ry, .bool rb]) ∧ Below w.heap.size w w' := by
  have hB := belowNew w (.cells #[.int .i64 first] 3)
  have s1 := hB.size
  cases hi : (decide (0 ≤ n) && decide (n ≤ 200)) with
  | false =>
    rw [m_CountDigests, if_neg (by rintro ⟨-, -, h1, h2, -⟩; simp [h1, h2] at hi)] at hm
    obtain ⟨rfl, rfl⟩ := Prod.mk.inj hm
    have HI := Lib.hid hi
    clear hm hi hn
    go_enter Tryd.func28, Tryd.ntmps28
    go_wp2_with fail
    refine (l1In_any n 0 200 false _ HI.out).mono ?_
    rintro e w' ⟨rfl, rfl⟩
    go_wp2
    go_ret2
    exact ⟨rfl, Below.refl _ _⟩
  | true =>
    have hi2 := hi
    rw [Bool.and_eq_true, decide_eq_true_eq, decide_eq_true_eq] at hi2
    obtain ⟨q, rfl⟩ : ∃ q : Nat, n = (q : Int) := ⟨n.toNat, by omega⟩
    have HI := Lib.hid hi
    have q200 : q ≤ 200 := by omega
    cases hw : words 1 [first] with
    | false =>
      have hw2 := hw
      rw [words_just] at hw2
      rw [m_CountDigests, if_neg (by rintro ⟨h1, h2, -⟩; simp [h1, h2] at hw2)] at hm
      obtain ⟨rfl, rfl⟩ := Prod.mk.inj hm
      have HW := Lib.hid hw
      clear hm hi hi2 hw hw2 hn
      go_enter Tryd.func28, Tryd.ntmps28
      go_wp2_with fail
      refine (l1In_any (q : Int) 0 200 true _ HI.out).mono ?_
      rintro e w' ⟨rfl, rfl⟩
      go_wp2_with fail
      refine (dgList_any (some ⟨w.heap.size, 0, none⟩) 1 1 [first] 1 false _ (litHas rfl rfl) (by omega) (by omega) HW.out).mono ?_
      rintro e w' ⟨rfl, rfl⟩
      go_wp2
      go_ret2
      exact ⟨rfl, hB⟩
    | true =>
      have hw2 := hw
      rw [words_just, Bool.and_eq_true, decide_eq_true_eq, decide_eq_true_eq] at hw2
      obtain ⟨f0, f1⟩ := hw2
      have HW := Lib.hid hw
      obtain ⟨t, ht⟩ : ∃ t : Int, (if (0 : Int) < (q : Int) - 1 then (q : Int) - 1 else 0) = t := ⟨_, rfl⟩
      have t0 : 0 ≤ t ∧ t ≤ 200 := by rw [← ht]; split <;> omega
      obtain ⟨t0, t1⟩ := t0
      have hB2 := belowNew (w.alloc (.cells #[.int .i64 first] 3)) (.cells #[.int .i64 (first + t)] 3)
      have BB := hB.trans (hB2.mono s1)
      have hl2 : Has ((w.alloc (.cells #[.int .i64 first] 3)).alloc (.cells #[.int .i64 (first + t)] 3)) (some ⟨w.heap.size + 1, 0, none⟩) 1 [first + t] := by
        have := litHas (w := w.alloc (.cells #[.int .i64 first] 3)) (vs := #[.int .i64 (first + t)]) (zs := [first + t]) (n := 1) rfl rfl
        have e2 : (w.alloc (.cells #[.int .i64 first] 3)).heap.size = w.heap.size + 1 := by simp
        rw [e2] at this
        exact this
      have hw' := words_just (first + t)
      cases hx : words 1 [first + t] with
      | false =>
        rw [hx] at hw'
        rw [m_CountDigests, if_neg (by
          rintro ⟨-, -, -, -, h⟩
          have h3 : -1000000000 ≤ first + t := by omega
          have h4 : first + t ≤ 1000000000 := by rw [← ht]; split <;> omega
          rw [decide_eq_true h3, decide_eq_true h4] at hw'
          cases hw')] at hm
        obtain ⟨rfl, rfl⟩ := Prod.mk.inj hm
        have HX := Lib.hid hx
        have HT := Lib.hid ht
        clear hm hi hi2 hw hn hx hw' ht
        go_enter Tryd.func28, Tryd.ntmps28
        go_wp2_with fail
        refine (l1In_any (q : Int) 0 200 true _ HI.out).mono ?_
        rintro e w' ⟨rfl, rfl⟩
        go_wp2_with fail
        refine (dgList_any (some ⟨w.heap.size, 0, none⟩) 1 1 [first] 1 true _ (litHas rfl rfl) (by omega) (by omega) HW.out).mono ?_
        rintro e w' ⟨rfl, rfl⟩
        go_wp2_with fail
        refine (max_any ((q : Int) - 1) _ (by omega)).mono ?_
        rintro e w' ⟨rfl, rfl⟩
        rw [HT.out]
        go_wp2_with fail
        refine (dgList_any (some ⟨w.heap.size + 1, 0, none⟩) 1 1 [first + t] 1 false _ hl2 (by omega) (by omega) HX.out).mono ?_
        rintro e w' ⟨rfl, rfl⟩
        go_wp2
        go_ret2
        exact ⟨rfl, BB⟩
      | true =>
        rw [hx] at hw'
        have hw3 := hw'.symm
        rw [Bool.and_eq_true, decide_eq_true_eq, decide_eq_true_eq] at hw3
        have hall : first + (q : Int) - 1 ≤ 1000000000 := by
          have := hw3.2
          rw [← ht] at this
          split at this <;> omega
        rw [m_CountDigests, if_pos ⟨f0, f1, by omega, by omega, hall⟩, Int.toNat_natCast] at hm
        obtain ⟨rfl, rfl⟩ := Prod.mk.inj hm
        have HX := Lib.hid hx
        have HT := Lib.hid ht
        obtain ⟨W, hW⟩ : ∃ W, (w.alloc (.cells #[.int .i64 first] 3)).alloc (.cells #[.int .i64 (first + t)] 3) = W := ⟨_, rfl⟩
        have BW : Below w.heap.size w W := by rw [← hW]; exact BB
        have HW2 := Lib.hid hW
        clear hm hi hi2 hw hn hx hw' hw3 ht hW
        go_enter Tryd.func28, Tryd.ntmps28
        go_wp2_with fail
        refine (l1In_any (q : Int) 0 200 true _ HI.out).mono ?_
        rintro e w' ⟨rfl, rfl⟩
        go_wp2_with fail
        refine (dgList_any (some ⟨w.heap.size, 0, none⟩) 1 1 [first] 1 true _ (litHas rfl rfl) (by omega) (by omega) HW.out).mono ?_
        rintro e w' ⟨rfl, rfl⟩
        go_wp2_with fail
        refine (max_any ((q : Int) - 1) _ (by omega)).mono ?_
        rintro e w' ⟨rfl, rfl⟩
        rw [HT.out]
        go_wp2_with fail
        refine (dgList_any (some ⟨w.heap.size + 1, 0, none⟩) 1 1 [first + t] 1 true _ hl2 (by omega) (by omega) HX.out).mono ?_
        rintro e w' ⟨rfl, rfl⟩
        rw [HW2.out]
        go_wp2
        go_loopw [6, 7] (fun v i wr => ∃ k : Nat, k ≤ q ∧ i = .int .i64 k ∧ ∃ R m c', v = .slice R m c' ∧ m ≤ k ∧ m ≤ c' ∧ NilOk R m c' ∧ Below w.heap.size w wr ∧ ∃ rs, Has wr R m rs ∧ Hid (rs.Pairwise (· < ·)) ∧ Hid (∀ y, y ∈ rs ↔ y ∈ dgs first k)) (fun _ i _ => q - (intOf i).toNat)
        case atStart => exact ⟨0, Nat.zero_le _, rfl, none, 0, 0, rfl, Nat.le_refl _, Nat.le_refl _, fun _ => ⟨rfl, rfl⟩, BW, [], Has.nil_, List.Pairwise.nil, fun y => Iff.rfl⟩
        clear BW
        case round =>
          obtain ⟨k, hk, rfl, R, m, c', rfl, hmk, hmc, hnil, hbk, rs, hrs, HP, HM⟩ := hrel
          by_cases hlt : k < q
          · have hsz := hbk.size
            have hB3 := belowNew wr (.cells #[.int .i64 (first + (k : Int))] 3)
            have H12 : Hid (words 12 [first + (k : Int)] = true) := words_mono (words_one (by omega) (by omega)) (by omega)
            obtain ⟨d, hd⟩ : ∃ d, dg [first + (k : Int)] = d := ⟨_, rfl⟩
            have HD := Lib.hid hd
            clear hd
            go_wp2_with fail
            refine (dgMix_any (some ⟨wr.heap.size, 0, none⟩) 1 1 [first + (k : Int)] _ (litHas rfl rfl) (fun e => by cases e) H12.out).mono ?_
            rintro e w3 ⟨rfl, hb3⟩
            rw [HD.out]
            have B3 := hB3.trans (hb3.mono hB3.size)
            have hrs3 := hrs.below B3
            have s3 := B3.size
            clear hb3 hB3 hrs
            go_wp2_with fail
            refine (l1Put_any R m c' rs d _ hrs3 (by omega) hmc hnil HP.out).mono ?_
            rintro e w4 ⟨R4, m4, c4, rfl, hmc4, hnil4, hb4, rs4, hrs4, hp4, hm4, hlen⟩
            have hm5 : m4 ≤ m + 1 := by rw [hlen, putLen]; split <;> omega
            have HP4 := Lib.hid hp4
            have HM4 := Lib.hid hm4
            clear hp4 hm4 hlen hrs3
            go_wp2
            go_roundw
            case rel =>
              refine ⟨k + 1, by omega, by go_num, R4, m4, c4, rfl, by omega, hmc4, hnil4, hbk.trans ((B3.trans (hb4.mono s3)).mono hsz), rs4, hrs4, HP4.out, fun y => ?_⟩
              rw [HM4.out, HM.out, dgs, dgs, mapTo_succ, List.mem_append, List.mem_singleton, HD.out]
              exact Or.comm
            case measure => simp [intOf]; omega
          · obtain rfl : k = q := by omega
            have hl := hrs.1
            have he := distinct_eq HP.out HM.out
            go_wp2
            go_ret2
            exact ⟨by rw [← he, hl]; rfl, hbk⟩

end Go.Proofs.YtjalpankapakkaaDoor
