/- The library's joining of two lists (slices.Concat over slices.Grow), at integers and at gates; make with room to spare. For slices of at most 16777216 elements. -/
import Derived.Test.YtaohgbkhmgfnhaaCirI1
import Derived.Test.YtaohgbkhmgfnhaaCirA2
import Derived.Lib.AppendZeros
import Derived.Deep.DeepCutAuto
namespace Go.Proofs.Ytaohgbkhmgfnhaa
open Go.RowKit
set_option maxRecDepth 100000

/-- make([]int, 0, n): a row with room for n. -/
theorem makeSpare {ops : Array Oper} {rest : List Oper} {o : Oper} {a : Act} {Q : Exit → Act → World → Prop} (w : World) (hg : o.guard = none) (l c : Operand) (hop : o.op = Op.makeSlice 23 l c)
    (n : Nat) (hl : a.eval l = .int .i64 0) (hc : a.eval c = .int .i64 (n : Int)) (hn : n ≤ 16777216)
    (hK : ∀ w', Own w' w.heap.size (some ⟨w.heap.size, 0, none⟩) 0 n [] → Below w.heap.size w w' → wpList Try.prog ops Q rest (a.put o.dst (.slice (some ⟨w.heap.size, 0, none⟩) 0 n)) w') :
    wpList Try.prog ops Q (o :: rest) a w := by
  obtain ⟨i0, hi, hz0, hz1, hz2⟩ := info_parts infoInt
  refine wpList_make_own _ hg l c 23 hop w.heap.size 3 i0 (.int .i64 0) 1 Try.underlying23 hi hz0 hz1 .i64 .i64 _ n hl hc rfl (by rw [hz2]; omega) (by simp only [maxLen]; omega) (Nat.le_refl _) ?_
  intro w1 hown hgrow
  exact hK w1 ⟨rfl, hown⟩ (belowOf hgrow)

theorem size_zeroes (cs : Array Value) : ∀ n, (Builtin.zeroCells cs n).size = n * cs.size
  | 0 => by simp [Builtin.zeroCells]
  | n + 1 => by simp [Builtin.zeroCells]

set_option maxHeartbeats 1000000 in
theorem growInts_any (n : Nat) (w : World) (hn : n ≤ 33554432) :
    Calls Try.prog 92 #[.slice none 0 0, .int .i64 (n : Int)] w fun e w' => ∃ v, e = .returned v ∧ w'.ownsRow w.heap.size 3 1 v 0 (vals []) ∧ Below w.heap.size w w' := by
  by_cases h0 : n = 0
  · subst h0
    go_enter Try.func92, Try.ntmps92
    go_wp2
    go_ret
    exact ⟨_, rfl, World.ownsRow_nil _ _ _ _, Below.refl _ _⟩
  · obtain ⟨i0, hi, hz0, hz1, hz2⟩ := info_parts infoInt
    have hrz : ∀ ty, (Builtin.append_ #[23, 3] ty #[.slice none 0 0, .int .i64 (n : Int)]).run Try.prog w = _ := fun ty =>
      Lib.run_append_nil_zeros w 23 3 ty 3 i0 (.int .i64 0) .i64 .i64 Try.underlying23 Try.underlying3 hi hz0 n (by omega) (by omega) (by omega) (by rw [hz2]; omega)
    have hge := grownCap_ge w n 0 3
    have hle := grownCap_le_maxLen w n 0 3 (by unfold maxLen; omega)
    obtain ⟨G, hG⟩ : ∃ G, grownCap w n 0 3 = G := ⟨_, rfl⟩
    rw [hG] at hrz hge hle
    have p0 : (0 : Int) < (n : Int) := by omega
    have gm : (G : Int) ≤ 9223372036854775807 := by unfold maxLen at hle; omega
    have hs : (Builtin.zeroCells (Value.int .i64 0).cells n ++ Builtin.zeroCells (Value.int .i64 0).cells (G - n)).size = G * 1 := by
      rw [Array.size_append, size_zeroes, size_zeroes]
      have e1 : (Value.int .i64 0).cells.size = 1 := rfl
      rw [e1]
      omega
    have hown := World.ownsRow_made (e := 3) w.drew _ G (Nat.le_refl w.heap.size) hle hs
    have HO := Lib.hid hown
    clear hG hown hs h0 hle
    go_enter Try.func92, Try.ntmps92
    go_wp2_with (at_builtin; refine Lib.wpList_append_run _ rfl _ _ _ _ rfl _ _ rfl rfl _ _ (hrz _) ?_)
    go_ret
    exact ⟨_, rfl, HO.out, ((Below.refl _ w).drew).alloc (Nat.le_refl _) _⟩

/-- One of three, by a number. -/
def pre3 {α : Type} (k : Nat) (a b c : α) : α := match k with | 0 => a | 1 => b | _ => c

set_option maxHeartbeats 2000000 in
theorem concat2_any (q : Nat) (A : Option Addr) (n c : Nat) (xs : List Int) (B : Option Addr) (m d : Nat) (ys : List Int) (w : World) (hc0 : w.cell? ⟨q, 0, none⟩ = some (.slice A n c)) (hc1 : w.cell? ⟨q, 1, none⟩ = some (.slice B m d)) (hq : q < w.heap.size)
    (hx : Has w A n xs) (hn : n ≤ 16777216) (hnil : NilOk A n c) (hy : Has w B m ys) (hm : m ≤ 16777216) (hnil2 : NilOk B m d) :
    Calls Try.prog 54 #[.slice (some ⟨q, 0, none⟩) 2 2] w fun e w' => ∃ R c', e = .returned (.slice R (n + m) c') ∧ Own w' w.heap.size R (n + m) c' (xs ++ ys) ∧ Below w.heap.size w w' := by
  obtain ⟨t, ht⟩ : ∃ t, n + m = t := ⟨_, rfl⟩
  have HT := Lib.hid ht
  have t1 : t ≤ 33554432 := by omega
  rw [ht]
  clear ht
  go_enter Try.func54, Try.ntmps54
  go_wp2_with fail
  go_loop [3, 11] (fun s i => ∃ k : Nat, k ≤ 2 ∧ i = .int .i64 k ∧ s = .int .i64 ((pre3 k 0 n t : Nat) : Int)) (fun _ i => 2 - (intOf i).toNat)
  case atStart => exact ⟨0, by omega, rfl, rfl⟩
  case round =>
    obtain ⟨k, hk, rfl, rfl⟩ := hrel
    match k, hk with
    | 0, _ =>
      simp only [pre3]
      go_wp2_with fail
      go_round
      case rel => exact ⟨1, by omega, rfl, by simp⟩
      case measure => simp [intOf]
    | 1, _ =>
      simp only [pre3]
      go_wp2_with fail
      go_round
      case rel => exact ⟨2, by omega, rfl, by have := HT.out; show Value.int .i64 _ = Value.int .i64 ((t : Nat) : Int); congr 1; omega⟩
      case measure => simp [intOf]
    | 2, _ =>
      simp only [pre3]
      go_wp2_with fail
      refine (growInts_any t _ t1).mono ?_
      rintro e w1 ⟨v1, rfl, o1, b1⟩
      go_wp2_with fail
      go_loopw [6, 27] (fun v i wr => ∃ k : Nat, k ≤ 2 ∧ i = .int .i64 k ∧ wr.ownsRow w.heap.size 3 1 v (pre3 k 0 n t) (vals (pre3 k [] xs (xs ++ ys))) ∧ Below w.heap.size w wr) (fun _ i _ => 2 - (intOf i).toNat)
      case atStart => exact ⟨0, by omega, rfl, o1, b1⟩
      case round =>
        obtain ⟨k, hk, rfl, ho, bk⟩ := hrel
        have cc0 := cellKept bk hq hc0
        have cc1 := cellKept bk hq hc1
        match k, hk with
        | 0, _ =>
          simp only [pre3] at ho
          have hx1 := hx.below bk
          have sz := bk.size
          go_wp2_with (at_builtin; refine appendMany _ rfl (.tmp 31) (.tmp 32) rfl w.heap.size _ A 0 n c [] xs rfl ho rfl hnil hx1 (by omega) (by omega) sz ?_; intro v2 w2 own2 b2; rw [Nat.zero_add, List.nil_append] at own2)
          go_roundw
          case rel => exact ⟨1, by omega, rfl, own2, bk.trans b2⟩
          case measure => simp [intOf]
        | 1, _ =>
          simp only [pre3] at ho
          have hy1 := hy.below bk
          have sz := bk.size
          go_wp2_with (at_builtin; refine appendMany _ rfl (.tmp 31) (.tmp 32) rfl w.heap.size _ B n m d xs ys rfl ho rfl hnil2 hy1 (by omega) (by omega) sz ?_; intro v2 w2 own2 b2; rw [HT.out] at own2)
          go_roundw
          case rel => exact ⟨2, by omega, rfl, own2, bk.trans b2⟩
          case measure => simp [intOf]
        | 2, _ =>
          simp only [pre3] at ho
          obtain ⟨R, c', rfl, ho'⟩ := ownOf ho
          go_wp2_with fail
          go_ret
          exact ⟨R, c', rfl, ho', bk⟩

set_option maxHeartbeats 1000000 in
theorem growGates_any (n : Nat) (w : World) (hn : n ≤ 33554432) :
    Calls Try.prog 109 #[.slice none 0 0, .int .i64 (n : Int)] w fun e w' => ∃ v, e = .returned v ∧ w'.ownsRow w.heap.size 51 3 v 0 (gvals []) ∧ Below w.heap.size w w' := by
  by_cases h0 : n = 0
  · subst h0
    go_enter Try.func109, Try.ntmps109
    go_wp2
    go_ret
    exact ⟨_, rfl, World.ownsRow_nil _ _ _ _, Below.refl _ _⟩
  · obtain ⟨i0, hi, hz0, hz1, hz2⟩ := info_parts infoGate
    have hrz : ∀ ty, (Builtin.append_ #[28, 3] ty #[.slice none 0 0, .int .i64 (n : Int)]).run Try.prog w = _ := fun ty =>
      Lib.run_append_nil_zeros w 28 3 ty 51 i0 (.agg #[.int .i64 0, .int .i64 0, .int .i64 0]) .i64 .i64 Try.underlying28 Try.underlying3 hi hz0 n (by omega) (by omega) (by omega) (by rw [hz2]; omega)
    have hge := grownCap_ge w n 0 51
    have hle := grownCap_le_maxLen w n 0 51 (by unfold maxLen; omega)
    obtain ⟨G, hG⟩ : ∃ G, grownCap w n 0 51 = G := ⟨_, rfl⟩
    rw [hG] at hrz hge hle
    have p0 : (0 : Int) < (n : Int) := by omega
    have gm : (G : Int) ≤ 9223372036854775807 := by unfold maxLen at hle; omega
    have hs : (Builtin.zeroCells (Value.agg #[.int .i64 0, .int .i64 0, .int .i64 0]).cells n ++ Builtin.zeroCells (Value.agg #[.int .i64 0, .int .i64 0, .int .i64 0]).cells (G - n)).size = G * 3 := by
      rw [Array.size_append, size_zeroes, size_zeroes]
      have e1 : (Value.agg #[.int .i64 0, .int .i64 0, .int .i64 0]).cells.size = 3 := rfl
      rw [e1]
      omega
    have hown := World.ownsRow_made (e := 51) w.drew _ G (Nat.le_refl w.heap.size) hle hs
    have HO := Lib.hid hown
    clear hG hown hs h0 hle
    go_enter Try.func109, Try.ntmps109
    go_wp2_with (at_builtin; refine Lib.wpList_append_run _ rfl _ _ _ _ rfl _ _ rfl rfl _ _ (hrz _) ?_)
    go_ret
    exact ⟨_, rfl, HO.out, ((Below.refl _ w).drew).alloc (Nat.le_refl _) _⟩

set_option maxHeartbeats 2000000 in
theorem concat2G_any (q : Nat) (A : Option Addr) (n c : Nat) (xs : List Ga) (B : Option Addr) (m d : Nat) (ys : List Ga) (w : World) (hc0 : w.cell? ⟨q, 0, none⟩ = some (.slice A n c)) (hc1 : w.cell? ⟨q, 1, none⟩ = some (.slice B m d)) (hq : q < w.heap.size)
    (hx : HasG w A n xs) (hn : n ≤ 16777216) (hnil : NilOk A n c) (hy : HasG w B m ys) (hm : m ≤ 16777216) (hnil2 : NilOk B m d) :
    Calls Try.prog 76 #[.slice (some ⟨q, 0, none⟩) 2 2] w fun e w' => ∃ R c', e = .returned (.slice R (n + m) c') ∧ OwnG w' w.heap.size R (n + m) c' (xs ++ ys) ∧ Below w.heap.size w w' := by
  obtain ⟨t, ht⟩ : ∃ t, n + m = t := ⟨_, rfl⟩
  have HT := Lib.hid ht
  have t1 : t ≤ 33554432 := by omega
  rw [ht]
  clear ht
  go_enter Try.func76, Try.ntmps76
  go_wp2_with fail
  go_loop [3, 11] (fun s i => ∃ k : Nat, k ≤ 2 ∧ i = .int .i64 k ∧ s = .int .i64 ((pre3 k 0 n t : Nat) : Int)) (fun _ i => 2 - (intOf i).toNat)
  case atStart => exact ⟨0, by omega, rfl, rfl⟩
  case round =>
    obtain ⟨k, hk, rfl, rfl⟩ := hrel
    match k, hk with
    | 0, _ =>
      simp only [pre3]
      go_wp2_with fail
      go_round
      case rel => exact ⟨1, by omega, rfl, by simp⟩
      case measure => simp [intOf]
    | 1, _ =>
      simp only [pre3]
      go_wp2_with fail
      go_round
      case rel => exact ⟨2, by omega, rfl, by have := HT.out; show Value.int .i64 _ = Value.int .i64 ((t : Nat) : Int); congr 1; omega⟩
      case measure => simp [intOf]
    | 2, _ =>
      simp only [pre3]
      go_wp2_with fail
      refine (growGates_any t _ t1).mono ?_
      rintro e w1 ⟨v1, rfl, o1, b1⟩
      go_wp2_with fail
      go_loopw [6, 27] (fun v i wr => ∃ k : Nat, k ≤ 2 ∧ i = .int .i64 k ∧ wr.ownsRow w.heap.size 51 3 v (pre3 k 0 n t) (gvals (pre3 k [] xs (xs ++ ys))) ∧ Below w.heap.size w wr) (fun _ i _ => 2 - (intOf i).toNat)
      case atStart => exact ⟨0, by omega, rfl, o1, b1⟩
      case round =>
        obtain ⟨k, hk, rfl, ho, bk⟩ := hrel
        have cc0 := cellKept bk hq hc0
        have cc1 := cellKept bk hq hc1
        match k, hk with
        | 0, _ =>
          simp only [pre3] at ho
          have hx1 := hx.below bk
          have sz := bk.size
          go_wp2_with (at_builtin; refine appendGates _ rfl (.tmp 31) (.tmp 32) rfl w.heap.size _ A 0 n c [] xs rfl ho rfl hnil hx1 (by omega) (by omega) sz ?_; intro v2 w2 own2 b2 _; rw [Nat.zero_add, List.nil_append] at own2)
          go_roundw
          case rel => exact ⟨1, by omega, rfl, own2, bk.trans b2⟩
          case measure => simp [intOf]
        | 1, _ =>
          simp only [pre3] at ho
          have hy1 := hy.below bk
          have sz := bk.size
          go_wp2_with (at_builtin; refine appendGates _ rfl (.tmp 31) (.tmp 32) rfl w.heap.size _ B n m d xs ys rfl ho rfl hnil2 hy1 (by omega) (by omega) sz ?_; intro v2 w2 own2 b2 _; rw [HT.out] at own2)
          go_roundw
          case rel => exact ⟨2, by omega, rfl, own2, bk.trans b2⟩
          case measure => simp [intOf]
        | 2, _ =>
          simp only [pre3] at ho
          obtain ⟨R, c', rfl, ho'⟩ := ownGOf ho
          go_wp2_with fail
          go_ret
          exact ⟨R, c', rfl, ho', bk⟩

end Go.Proofs.Ytaohgbkhmgfnhaa
