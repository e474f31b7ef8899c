/- What the helpers of the exact laws do with a list of lists of integers: its size, a copy, a comparison, marks in each row. For at most 1048576 elements in all. -/
import Derived.Test.YtnimlhibpakcdaaMat7
import Derived.Test.YtnimlhibpakcdaaHelp
import Derived.Test.YtnimlhibpakcdaaClose
import Derived.Deep.Slices
namespace Go.Proofs.Ytnimlhibpakcdaa
open Go.RowKit Go.ChangeShapes Go.WideShapes Go.ChangeAt Go.Deep

/-- A list of lists that came in, whatever its size. -/
def HasW (w : World) (A : Option Addr) (n : Nat) (M : Nat → List Int) : Prop :=
  n ≤ maxLen ∧ (0 < n → ∃ ad : Addr, A = some ad ∧ ad.block < w.heap.size ∧ ∀ k, k < n → ∃ R m c, w.cell? (ad.add k) = some (.slice R m c) ∧ Has w R m (M k) ∧ m ≤ maxLen ∧ m ≤ c ∧ NilOk R m c)
theorem HasW.toM {w : World} {A : Option Addr} {n : Nat} {M : Nat → List Int} (h : HasW w A n M) (hr : ∀ k, k < n → (M k).length ≤ 1048576) : HasM w A n M := fun hn => by
  obtain ⟨ad, e, hlt, hc⟩ := h.2 hn
  refine ⟨ad, e, hlt, fun k hk => ?_⟩
  obtain ⟨R, m, c, h1, h2, _, h4, h5⟩ := hc k hk
  exact ⟨R, m, c, h1, h2, by have := hr k hk; rw [h2.1] at this; omega, h4, h5⟩
theorem HasW.elem {w : World} {A : Option Addr} {n k : Nat} {M : Nat → List Int} (h : HasW w A n M) (hk : k < n) : ∃ (ad : Addr) (R : Option Addr) (m c : Nat), A = some ad ∧ w.cell? (ad.add k) = some (.slice R m c) ∧ Has w R m (M k) ∧ m ≤ maxLen := by
  obtain ⟨ad, e, _, hc⟩ := h.2 (by omega)
  obtain ⟨R, m, c, h1, h2, h3, _⟩ := hc k hk
  exact ⟨ad, R, m, c, e, h1, h2, h3⟩

theorem cellsInts : Try.prog.cellsOf 28 = 1 := by kernel_rfl

/-- One list of integers that came in. -/
theorem openRow {H : Type} {enc : TypeId × Value → H} {W : World} {fuel : Nat} {v : Value} {x : DataW H × List MemPlace} (h : DataW.trod enc Try.prog W 0 (fun _ => true) true fuel 28 [v] = some x) :
    ∃ (a : Option Addr) (n c : Nat) (zs : List Int), v = .slice a n c ∧ Has W a n zs ∧ n ≤ maxLen ∧ n ≤ c ∧ NilOk a n c := by
  rcases open_ints Try.underlying28 Try.underlying3 cellsInt h with ⟨e, _⟩ | ⟨a, len, cap, zs, e, _, hl, hm, hlen, ex, hc, hwf⟩
  · exact ⟨none, 0, 0, [], by simpa using e, Has.nil_, Nat.zero_le _, Nat.zero_le _, fun _ => ⟨rfl, rfl⟩⟩
  · simp only [if_true] at hlen
    refine ⟨some a, len, cap, zs.take len, by simpa using e, ⟨by rw [List.length_take]; omega, fun hn => ⟨a, rfl, ?_, fun k hk => ?_⟩⟩, by omega, hl, fun e => by cases e⟩
    · have h0 := World.block_lt_of_cell? W _ (hc 0 (by omega))
      rwa [addBlock] at h0
    · rw [hc k (by omega)]
      simp [List.getD, hk]

theorem chooseM {W : World} {ad : Addr} {n : Nat} (h : ∀ k, k < n → ∃ (L : List Int) (R : Option Addr) (m c : Nat), W.cell? (ad.add k) = some (.slice R m c) ∧ Has W R m L ∧ m ≤ maxLen ∧ m ≤ c ∧ NilOk R m c) :
    ∃ M : Nat → List Int, ∀ k, k < n → ∃ R m c, W.cell? (ad.add k) = some (.slice R m c) ∧ Has W R m (M k) ∧ m ≤ maxLen ∧ m ≤ c ∧ NilOk R m c := by
  refine ⟨fun k => if hk : k < n then Classical.choose (h k hk) else [], fun k hk => ?_⟩
  have := Classical.choose_spec (h k hk)
  simpa only [dif_pos hk] using this

/-- A list of lists that came in. -/
theorem openM {H : Type} {enc : TypeId × Value → H} {W : World} {base : Nat} {v : Value} {d : DataW H} {ps : List MemPlace} (hv : Value.okWide Try.prog W .any base 39 v)
    (h : DataW.Trod enc Try.prog W 0 (fun _ => true) true 39 v d ps) :
    ∃ (a : Option Addr) (n c : Nat) (M : Nat → List Int), v = .slice a n c ∧ HasW W a n M := by
  obtain ⟨fuel, hf⟩ := h
  obtain ⟨a0, n0, c0, rfl⟩ := okWide_slice Try.underlying39 hv
  have hcs : (Value.slice a0 n0 c0).cells.toList = [.slice a0 n0 c0] := rfl
  rw [hcs] at hf
  rcases open_slice1 Try.underlying39 cellsInts hf with ⟨e, _⟩ | ⟨a, len, cap, m, f2, V, D, Pl, e, _, hl, hm, hmm, _, hx⟩
  · exact ⟨none, 0, 0, fun _ => [], by simpa using e, Nat.zero_le _, fun hn => by omega⟩
  · simp only [if_true] at hmm
    subst hmm
    have each : ∀ k, k < len → ∃ (L : List Int) (R : Option Addr) (m' c' : Nat), W.cell? (a.add k) = some (.slice R m' c') ∧ Has W R m' L ∧ m' ≤ maxLen ∧ m' ≤ c' ∧ NilOk R m' c' := fun k hk => by
      obtain ⟨h1, h2⟩ := hx k (by omega)
      obtain ⟨R, m', c', L, e1, e2, e3, e4, e5⟩ := openRow h2
      exact ⟨L, R, m', c', by rw [h1, e1], e2, e3, e4, e5⟩
    obtain ⟨M, hM⟩ := chooseM each
    refine ⟨some a, len, m, M, by simpa using e, by omega, fun hn => ⟨a, rfl, ?_, hM⟩⟩
    obtain ⟨R, m', c', h1, _⟩ := hM 0 hn
    have h0 := World.block_lt_of_cell? W _ h1
    rwa [addBlock] at h0

set_option maxHeartbeats 1000000 in
theorem szIntS_any (R : Option Addr) (m c : Nat) (left : Int) (w : World) (hm : m ≤ maxLen) (l0 : 0 ≤ left) (l1 : left ≤ 1048576) :
    Calls Try.prog 61 #[.slice R m c, .int .i64 left] w fun e w' => e = .returned (.int .i64 (if (m : Int) ≤ left then left - m else -1)) ∧ w = w' := by
  simp only [maxLen] at hm
  by_cases h : (m : Int) ≤ left
  · rw [if_pos h]
    go_enter Try.func61, Try.ntmps61
    go_wp2
    go_ret
    exact ⟨rfl, rfl⟩
  · rw [if_neg h]
    have h' : left - (m : Int) < 0 := by omega
    clear h
    go_enter Try.func61, Try.ntmps61
    go_wp2
    go_ret
    exact ⟨rfl, rfl⟩

/-- How many elements the first k rows have. -/
def lenTo (M : Nat → List Int) : Nat → Nat
  | 0 => 0
  | k + 1 => lenTo M k + (M k).length
theorem lenTo_row {M : Nat → List Int} {n k : Nat} (hk : k < n) : (M k).length ≤ lenTo M n := by
  induction n with
  | zero => omega
  | succ n ih =>
    rw [lenTo]
    by_cases e : k = n
    · subst e; omega
    · have := ih (by omega); omega
theorem lenTo_mono {M : Nat → List Int} {n k : Nat} (hk : k ≤ n) : lenTo M k ≤ lenTo M n := by
  induction n with
  | zero => exact Nat.le_of_eq (by rw [show k = 0 by omega])
  | succ n ih =>
    by_cases e : k = n + 1
    · subst e; exact Nat.le_refl _
    · have := ih (by omega); rw [lenTo]; omega

set_option maxHeartbeats 1000000 in
theorem szIntSS_any (A : Option Addr) (n c : Nat) (M : Nat → List Int) (w : World) (h : HasW w A n M) :
    Calls Try.prog 38 #[.slice A n c, .int .i64 1048576] w fun e w' => ∃ r : Int, e = .returned (.int .i64 r) ∧ w = w' ∧ -1 ≤ r ∧ r ≤ 1048576 ∧ (0 ≤ r → n ≤ 1048576 ∧ lenTo M n ≤ 1048576) := by
  have hn := h.1
  simp only [maxLen] at hn
  by_cases hbig : 1048576 < n
  · go_enter Try.func38, Try.ntmps38
    go_wp2
    go_ret
    exact ⟨-1, rfl, rfl, by omega, by omega, fun h => by omega⟩
  · have hn2 : n ≤ 1048576 := by omega
    clear hbig
    go_enter Try.func38, Try.ntmps38
    go_wp2
    go_loop [1, 5] (fun u i => ∃ (k : Nat) (t : Int), k ≤ n ∧ i = .int .i64 k ∧ u = .int .i64 t ∧ 0 ≤ t ∧ t ≤ 1048576 ∧ Hid (t + n + lenTo M k = 1048576)) (fun _ i => n - (intOf i).toNat)
    case atStart => exact ⟨0, 1048576 - (n : Int), Nat.zero_le _, rfl, rfl, by omega, by omega, by show _ = _; simp [lenTo]⟩
    case round =>
      obtain ⟨k, t, hk, rfl, rfl, t0, t1, HT⟩ := hrel
      by_cases hlt : k < n
      · obtain ⟨ad, R, m, cR, rfl, hcR, hRow, hml⟩ := h.elem hlt
        have HRL := Lib.hid hRow.1
        by_cases hmt : (m : Int) ≤ t
        · go_wp2_with fail
          refine (szIntS_any R m cR t w hml t0 t1).mono ?_
          rw [if_pos hmt]
          rintro e w' ⟨rfl, rfl⟩
          go_wp2
          go_round
          case rel => exact ⟨k + 1, t - m, by omega, by go_num, rfl, by omega, by omega, by show _ = _; rw [lenTo]; have := HT.out; have := HRL.out; omega⟩
          case measure => simp [intOf]; omega
        · go_wp2_with fail
          refine (szIntS_any R m cR t w hml t0 t1).mono ?_
          rw [if_neg (by omega)]
          rintro e w' ⟨rfl, rfl⟩
          go_wp2
          go_ret
          exact ⟨-1, rfl, rfl, by omega, by omega, fun h => by omega⟩
      · obtain rfl : n = k := by omega
        go_wp2
        go_ret
        exact ⟨t, rfl, rfl, by omega, by omega, fun _ => by have := HT.out; omega⟩

end Go.Proofs.Ytnimlhibpakcdaa
