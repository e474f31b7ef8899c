/- The program's count of different digests: the digests in order, without repetitions. For all numbers; the table of first numbers as start-up lays it. -/
import Derived.Test.YtjalpankapakkaaDoorDg8
import Derived.Test.YtjalpankapakkaaDoorDg5
import Derived.Test.YtjalpankapakkaaDoorSortInts
namespace Go.Proofs.YtjalpankapakkaaDoor
open Go.RowKit

set_option maxHeartbeats 1000000 in
theorem countDigests_not (first n : Int) (w : World) (hf : I64 first) (hn : I64 n) (hx : ¬ (-1000000000 ≤ first ∧ first ≤ 1000000000 ∧ 0 ≤ n ∧ n ≤ 200 ∧ first + n - 1 ≤ 1000000000)) :
    Calls Tryd.prog 27 #[.int .i64 first, .int .i64 n] w fun e w' => e = .returned (.tuple #[.int .i64 0, .bool false]) ∧ w = w' := by
  obtain ⟨hf0, hf1⟩ := hf
  obtain ⟨hn0, hn1⟩ := hn
  cases hw : (decide (-1000000000 ≤ first) && decide (first ≤ 1000000000)) with
  | false =>
    have HW := Lib.hid hw
    clear hw hx
    go_enter Tryd.func27, Tryd.ntmps27
    go_wp2_with fail
    refine (isWord_any first false _ HW.out).mono ?_
    rintro e w' ⟨rfl, rfl⟩
    go_wp2
    go_ret2
    exact ⟨rfl, rfl⟩
  | true =>
    have hw2 := hw
    rw [Bool.and_eq_true, decide_eq_true_eq, decide_eq_true_eq] at hw2
    have HW := Lib.hid hw
    obtain ⟨f0, f1⟩ := hw2
    rcases (by omega : n < 0 ∨ (0 ≤ n ∧ 200 < n) ∨ (0 ≤ n ∧ n ≤ 200)) with h1 | ⟨h1, h2⟩ | ⟨h1, h2⟩
    · clear hw hx
      go_enter Tryd.func27, Tryd.ntmps27
      go_wp2_with fail
      refine (isWord_any first true _ HW.out).mono ?_
      rintro e w' ⟨rfl, rfl⟩
      go_wp2
      go_ret2
      exact ⟨rfl, rfl⟩
    · clear hw hx
      go_enter Tryd.func27, Tryd.ntmps27
      go_wp2_with fail
      refine (isWord_any first true _ HW.out).mono ?_
      rintro e w' ⟨rfl, rfl⟩
      go_wp2
      go_ret2
      exact ⟨rfl, rfl⟩
    · have h3 : 1000000000 < first + n - 1 := by
        refine Classical.byContradiction fun h => hx ⟨f0, f1, h1, h2, by omega⟩
      clear hw hx
      go_enter Tryd.func27, Tryd.ntmps27
      go_wp2_with fail
      refine (isWord_any first true _ HW.out).mono ?_
      rintro e w' ⟨rfl, rfl⟩
      go_wp2
      go_ret2
      exact ⟨rfl, rfl⟩

set_option maxHeartbeats 2000000 in
theorem countDigests_go (first : Int) (q : Nat) (w : World) (hT : Starts w) (f0 : -1000000000 ≤ first) (f1 : first ≤ 1000000000) (hq : q ≤ 200) (h3 : first + (q : Int) - 1 ≤ 1000000000) :
    Calls Tryd.prog 27 #[.int .i64 first, .int .i64 (q : Int)] w fun e w' => e = .returned (.tuple #[.int .i64 ((distinct (dgs first q)).length : Int), .bool true]) ∧ Below w.heap.size w w' := by
  have HW : Hid ((decide (-1000000000 ≤ first) && decide (first ≤ 1000000000)) = true) := by show _ = _; simp [f0, f1]
  go_enter Tryd.func27, Tryd.ntmps27
  go_wp2_with fail
  refine (isWord_any first true _ HW.out).mono ?_
  rintro e w' ⟨rfl, rfl⟩
  go_wp2_with (at_make; refine makeInts _ rfl _ rfl q rfl (by omega) ?_; intro w1 hf hb1)
  have hf := hf (vals (dgs first q))
  go_loopw [30] (fun i wr => ∃ k : Nat, k ≤ q ∧ i = .int .i64 k ∧ Filled wr w.heap.size 3 w.heap.size q (vals (dgs first q)) (fun j => j < k) ∧ Below w.heap.size w wr) (fun i _ => q - (intOf i).toNat)
  case atStart => exact ⟨0, Nat.zero_le _, rfl, hf, hb1⟩
  case round =>
    obtain ⟨k, hk, rfl, hfk, hbk⟩ := hrel
    by_cases hlt : k < q
    · have H12 : Hid (words 12 ([first + (k : Int)] ++ []) = true) := words_mono (words_one (by omega) (by omega)) (by omega)
      have hB := belowNew wr (.cells #[.int .i64 (first + (k : Int))] 3)
      have s1 := hB.size
      have hT1 := (hT.below hbk).below hB
      obtain ⟨d, hd⟩ : ∃ d, dg [first + (k : Int)] = d := ⟨_, rfl⟩
      have HD : Hid (dg ([first + (k : Int)] ++ []) = d) := by show _ = _; rw [List.append_nil]; exact hd
      clear hd
      go_wp2_with fail
      refine (digestOf_any (some ⟨wr.heap.size, 0, none⟩) 1 1 [first + (k : Int)] none 0 0 [] _ (litHas rfl rfl) Has.nil_ hT1 H12.out).mono ?_
      rintro e w3 ⟨rfl, hb⟩
      rw [HD.out]
      have B3 := hB.trans (hb.mono s1)
      have hs3 := hbk.size
      have hf3 := hfk.below B3
      obtain ⟨v, hv⟩ := hf3.cell hlt
      have hfr := hf3.free k
      go_wp2
      go_roundw
      case rel =>
        refine ⟨k + 1, by omega, by go_num, ?_, (hbk.trans (B3.mono hs3)).setCell (Nat.le_refl _) _⟩
        refine hf3.put hlt ?_ (by intro j _ hj; omega)
        have e := HD.out
        rw [List.append_nil] at e
        rw [dgs, mapTo_vals _ hlt, e]
      case measure => simp [intOf]; omega
    · obtain rfl : k = q := by omega
      have ho : Own wr w.heap.size (some ⟨w.heap.size, 0, none⟩) k k (dgs first k) := ⟨mapTo_length _ _, hfk.full (by rw [vals_length, dgs, mapTo_length]) (by intro j hj; omega)⟩
      clear hfk
      go_wp2_with fail
      refine (sortInts_any w.heap.size k k (dgs first k) w.heap.size w wr ho (by omega) hbk).mono ?_
      rintro e w3 ⟨rfl, ho3, hb3⟩
      go_wp2_with fail
      refine (compactInts_any w.heap.size k k _ w.heap.size w w3 ho3 (by omega) hb3).mono ?_
      rintro e w4 ⟨rfl, ho4, hb4⟩
      have hlen : (Lib.compact ((dgs first k).mergeSort fun x y => decide (x ≤ y))).length ≤ 200 := by
        have := ho4.capLe; omega
      obtain ⟨m, hm⟩ : ∃ m, (Lib.compact ((dgs first k).mergeSort fun x y => decide (x ≤ y))).length = m := ⟨_, rfl⟩
      have HM : Hid ((distinct (dgs first k)).length = m) := hm
      rw [hm]
      clear hm ho4 hlen
      go_wp2
      go_ret2
      exact ⟨by rw [HM.out]; rfl, hb4⟩

theorem impl_CountDigests (first n : Int) (ry : Int) (rb : Bool) (w : World) (hf : I64 first) (hn : I64 n) (hT : Starts w) (hm : m_CountDigests first n = (ry, rb)) :
    Calls Tryd.prog 27 #[.int .i64 first, .int .i64 n] w fun e w' => e = .returned (.tuple #[.int .i64 ry, .bool rb]) ∧ Below w.heap.size w w' := by
  by_cases hg : -1000000000 ≤ first ∧ first ≤ 1000000000 ∧ 0 ≤ n ∧ n ≤ 200 ∧ first + n - 1 ≤ 1000000000
  · rw [m_CountDigests, if_pos hg] at hm
    obtain ⟨q, rfl⟩ : ∃ q : Nat, n = (q : Int) := ⟨n.toNat, by omega⟩
    rw [Int.toNat_natCast] at hm
    obtain ⟨rfl, rfl⟩ := Prod.mk.inj hm
    exact countDigests_go first q w hT hg.1 hg.2.1 (by omega) hg.2.2.2.2
  · rw [m_CountDigests, if_neg hg] at hm
    obtain ⟨rfl, rfl⟩ := Prod.mk.inj hm
    refine (countDigests_not first n w hf hn hg).mono ?_
    rintro e w' ⟨rfl, rfl⟩
    exact ⟨rfl, Below.refl _ _⟩

end Go.Proofs.YtjalpankapakkaaDoor
