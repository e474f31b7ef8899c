/- Several texts in one: CirI1, CirI2, CirI3, CirI4, CirI5. What each says stands at its head. -/
import Derived.Test.YteiibneaihdmbaaCirM1
import Derived.Test.YteiibneaihdmbaaCirG1
import Derived.Deep.RegionHeld3
import Derived.Deep.DeepCutAuto
import Derived.Test.YteiibneaihdmbaaCirA2
import Derived.Lib.AppendZeros
import Derived.Test.YteiibneaihdmbaaCirG3
import Derived.BigQuiet
import Derived.Deep.QuietTactic
import Derived.Test.YteiibneaihdmbaaCirG4

/- The program's tests of numbers and of gates; its number of wires. For circuits of at most 1048576 gates and outs. -/
namespace Go.Proofs.Yteiibneaihdmbaa
open Go.RowKit
set_option maxRecDepth 100000


set_option maxHeartbeats 400000 in
theorem isBelow_any (n l : Int) (b : Bool) (w : World) (hb : (decide (0 ≤ n) && decide (n < l)) = b) :
    Calls Try.prog 117 #[.int .i64 n, .int .i64 l] w fun e w' => e = .returned (.bool b) ∧ w = w' := by
  subst hb
  by_cases h1 : 0 ≤ n
  · by_cases h2 : n < l
    · go_enter Try.func117, Try.ntmps117
      go_wp2
      go_ret
      exact ⟨by simp [h1, h2], rfl⟩
    · go_enter Try.func117, Try.ntmps117
      go_wp2
      go_ret
      exact ⟨by simp; omega, rfl⟩
  · go_enter Try.func117, Try.ntmps117
    go_wp2
    go_ret
    exact ⟨by simp; omega, rfl⟩

theorem wireOk_lt (n z : Int) : (decide (0 ≤ z) && decide (z < n)) = wireOk n z := by
  unfold wireOk
  congr 1
  exact decide_eq_decide.2 (by omega)

set_option maxHeartbeats 1000000 in
theorem isGate_any (x y z n : Int) (b : Bool) (w : World) (hb : gateOk n (x, y, z) = b) :
    Calls Try.prog 118 #[.agg #[.int .i64 x, .int .i64 y, .int .i64 z], .int .i64 n] w fun e w' => e = .returned (.bool b) ∧ Below w.heap.size w w' := by
  have B1 := belowNew w (.cells #[.int .i64 x, .int .i64 y, .int .i64 z] 69)
  have HL : Hid (∀ (q : Int) (w : World), Calls Try.prog 117 #[.int .i64 q, .int .i64 n] w fun e w' => e = .returned (.bool (wireOk n q)) ∧ w = w') := fun q w => isBelow_any q n _ w (wireOk_lt n q)
  by_cases c0 : x = 0 ∨ x = 1
  · have hb' : (wireOk n y && wireOk n z) = b := by rw [← hb, gateOk, if_pos c0]
    have HB := Lib.hid hb'
    clear hb hb'
    cases hy : wireOk n y with
    | false =>
      have e : b = false := by rw [← HB.out, hy, Bool.false_and]
      subst e
      rcases c0 with rfl | rfl
      all_goals
        go_enter Try.func118, Try.ntmps118
        go_wp2_with fail
        refine (HL.out y _).mono ?_
        rintro e w1 ⟨rfl, rfl⟩
        rw [hy]
        go_wp2_with fail
        go_ret
        exact ⟨rfl, B1⟩
    | true =>
      have e : b = wireOk n z := by rw [← HB.out, hy, Bool.true_and]
      subst e
      rcases c0 with rfl | rfl
      all_goals
        go_enter Try.func118, Try.ntmps118
        go_wp2_with fail
        refine (HL.out y _).mono ?_
        rintro e w1 ⟨rfl, rfl⟩
        rw [hy]
        go_wp2_with fail
        refine (HL.out z _).mono ?_
        rintro e w1 ⟨rfl, rfl⟩
        go_wp2_with fail
        go_ret
        exact ⟨rfl, B1⟩
  · by_cases c2 : x = 2
    · have hb' : (wireOk n y && decide (z = 0)) = b := by rw [← hb, gateOk, if_neg c0, if_pos c2]
      have HB := Lib.hid hb'
      clear hb hb' c0
      subst c2
      cases hy : wireOk n y with
      | false =>
        have e : b = false := by rw [← HB.out, hy, Bool.false_and]
        subst e
        go_enter Try.func118, Try.ntmps118
        go_wp2_with fail
        refine (HL.out y _).mono ?_
        rintro e w1 ⟨rfl, rfl⟩
        rw [hy]
        go_wp2_with fail
        go_ret
        exact ⟨rfl, B1⟩
      | true =>
        have e : b = decide (z = 0) := by rw [← HB.out, hy, Bool.true_and]
        subst e
        go_enter Try.func118, Try.ntmps118
        go_wp2_with fail
        refine (HL.out y _).mono ?_
        rintro e w1 ⟨rfl, rfl⟩
        rw [hy]
        go_wp2_with fail
        go_ret
        exact ⟨by congr 2, B1⟩
    · have hb' : decide ((x, y, z) = ((3, 0, 0) : Ga)) = b := by rw [← hb, gateOk, if_neg c0, if_neg c2]
      have HB := Lib.hid hb'
      have x0 : x ≠ 0 := fun e => c0 (.inl e)
      have x1 : x ≠ 1 := fun e => c0 (.inr e)
      clear hb hb' c0
      go_enter Try.func118, Try.ntmps118
      go_wp2_with fail
      all_goals
        go_ret
        refine ⟨?_, belowNew w _⟩
        have hbb := HB.out
        clear HB HL B1
        rw [← hbb]
        simp_all
        try exact hbb

set_option maxHeartbeats 1000000 in
theorem wiresIn_any (v : Value) (C : Ci) (w : World) (h : HasC w v C) (h0 : 0 ≤ C.in0) (h1 : C.in0 ≤ 1000) (h2 : 0 ≤ C.in1) (h3 : C.in1 ≤ 1000) (hl : C.gs.length ≤ 1048576) :
    Calls Try.prog 121 #[v] w fun e w' => e = .returned (.int .i64 C.wires) ∧ Below w.heap.size w w' := by
  obtain ⟨G, n, c, O, m, d, rfl, hG, hO, h5⟩ := h
  have hgl := hG.1
  have hw : C.in0 + C.in1 + (n : Int) = C.wires := by rw [Ci.wires, hgl]
  have w1 : IntKind.i64.wrap (C.in0 + C.in1) = C.in0 + C.in1 := wrapIn (by omega) (by omega)
  have w2 : IntKind.i64.wrap (C.in0 + C.in1 + (n : Int)) = C.in0 + C.in1 + (n : Int) := wrapIn (by omega) (by omega)
  have B1 := belowNew w (.cells #[.int .i64 C.in0, .int .i64 C.in1, .slice G n c, .slice O m d] 29)
  have HW := Lib.hid hw
  clear hw hG hO h5
  go_enter Try.func121, Try.ntmps121
  go_wp2
  go_ret
  exact ⟨retI HW.out, B1⟩

end Go.Proofs.Yteiibneaihdmbaa

/- The library's joining of two lists (slices.Concat over slices.Grow), at integers and at gates; make with room to spare. For slices of at most 16777216 elements. -/
namespace Go.Proofs.Yteiibneaihdmbaa
open Go.RowKit
set_option maxRecDepth 100000


/-- make([]int, 0, n): a row with room for n. -/
theorem makeSpare {ops : Array Oper} {rest : List Oper} {o : Oper} {a : Act} {Q : Exit → Act → World → Prop} (w : World) (hg : o.guard = none) (l c : Operand) (hop : o.op = Op.makeSlice 23 l c)
    (n : Nat) (hl : a.eval l = .int .i64 0) (hc : a.eval c = .int .i64 (n : Int)) (hn : n ≤ 16777216)
    (hK : ∀ w', Own w' w.heap.size (some ⟨w.heap.size, 0, none⟩) 0 n [] → Below w.heap.size w w' → wpList Try.prog ops Q rest (a.put o.dst (.slice (some ⟨w.heap.size, 0, none⟩) 0 n)) w') :
    wpList Try.prog ops Q (o :: rest) a w := by
  obtain ⟨i0, hi, hz0, hz1, hz2⟩ := info_parts infoInt
  refine wpList_make_own _ hg l c 23 hop w.heap.size 3 i0 (.int .i64 0) 1 Try.underlying23 hi hz0 hz1 .i64 .i64 _ n hl hc rfl (by rw [hz2]; omega) (by simp only [maxLen]; omega) (Nat.le_refl _) ?_
  intro w1 hown hgrow
  exact hK w1 ⟨rfl, hown⟩ (belowOf hgrow)

theorem size_zeroes (cs : Array Value) : ∀ n, (Builtin.zeroCells cs n).size = n * cs.size
  | 0 => by simp [Builtin.zeroCells]
  | n + 1 => by simp [Builtin.zeroCells]

set_option maxHeartbeats 1000000 in
theorem growInts_any (n : Nat) (w : World) (hn : n ≤ 33554432) :
    Calls Try.prog 144 #[.slice none 0 0, .int .i64 (n : Int)] w fun e w' => ∃ v, e = .returned v ∧ w'.ownsRow w.heap.size 3 1 v 0 (vals []) ∧ Below w.heap.size w w' := by
  by_cases h0 : n = 0
  · subst h0
    go_enter Try.func144, Try.ntmps144
    go_wp2
    go_ret
    exact ⟨_, rfl, World.ownsRow_nil _ _ _ _, Below.refl _ _⟩
  · obtain ⟨i0, hi, hz0, hz1, hz2⟩ := info_parts infoInt
    have hrz : ∀ ty, (Builtin.append_ #[23, 3] ty #[.slice none 0 0, .int .i64 (n : Int)]).run Try.prog w = _ := fun ty =>
      Lib.run_append_nil_zeros w 23 3 ty 3 i0 (.int .i64 0) .i64 .i64 Try.underlying23 Try.underlying3 hi hz0 n (by omega) (by omega) (by omega) (by rw [hz2]; omega)
    have hge := grownCap_ge w n 0 3
    have hle := grownCap_le_maxLen w n 0 3 (by unfold maxLen; omega)
    obtain ⟨G, hG⟩ : ∃ G, grownCap w n 0 3 = G := ⟨_, rfl⟩
    rw [hG] at hrz hge hle
    have p0 : (0 : Int) < (n : Int) := by omega
    have gm : (G : Int) ≤ 9223372036854775807 := by unfold maxLen at hle; omega
    have hs : (Builtin.zeroCells (Value.int .i64 0).cells n ++ Builtin.zeroCells (Value.int .i64 0).cells (G - n)).size = G * 1 := by
      rw [Array.size_append, size_zeroes, size_zeroes]
      have e1 : (Value.int .i64 0).cells.size = 1 := rfl
      rw [e1]
      omega
    have hown := World.ownsRow_made (e := 3) w.drew _ G (Nat.le_refl w.heap.size) hle hs
    have HO := Lib.hid hown
    clear hG hown hs h0 hle
    go_enter Try.func144, Try.ntmps144
    go_wp2_with (at_builtin; refine Lib.wpList_append_run _ rfl _ _ _ _ rfl _ _ rfl rfl _ _ (hrz _) ?_)
    go_ret
    exact ⟨_, rfl, HO.out, ((Below.refl _ w).drew).alloc (Nat.le_refl _) _⟩

/-- One of three, by a number. -/
def pre3 {α : Type} (k : Nat) (a b c : α) : α := match k with | 0 => a | 1 => b | _ => c

set_option maxHeartbeats 2000000 in
theorem concat2_any (q : Nat) (A : Option Addr) (n c : Nat) (xs : List Int) (B : Option Addr) (m d : Nat) (ys : List Int) (w : World) (hc0 : w.cell? ⟨q, 0, none⟩ = some (.slice A n c)) (hc1 : w.cell? ⟨q, 1, none⟩ = some (.slice B m d)) (hq : q < w.heap.size)
    (hx : Has w A n xs) (hn : n ≤ 16777216) (hnil : NilOk A n c) (hy : Has w B m ys) (hm : m ≤ 16777216) (hnil2 : NilOk B m d) :
    Calls Try.prog 111 #[.slice (some ⟨q, 0, none⟩) 2 2] w fun e w' => ∃ R c', e = .returned (.slice R (n + m) c') ∧ Own w' w.heap.size R (n + m) c' (xs ++ ys) ∧ Below w.heap.size w w' := by
  obtain ⟨t, ht⟩ : ∃ t, n + m = t := ⟨_, rfl⟩
  have HT := Lib.hid ht
  have t1 : t ≤ 33554432 := by omega
  rw [ht]
  clear ht
  go_enter Try.func111, Try.ntmps111
  go_wp2_with fail
  go_loop [3, 11] (fun s i => ∃ k : Nat, k ≤ 2 ∧ i = .int .i64 k ∧ s = .int .i64 ((pre3 k 0 n t : Nat) : Int)) (fun _ i => 2 - (intOf i).toNat)
  case atStart => exact ⟨0, by omega, rfl, rfl⟩
  case round =>
    obtain ⟨k, hk, rfl, rfl⟩ := hrel
    match k, hk with
    | 0, _ =>
      simp only [pre3]
      go_wp2_with fail
      go_round
      case rel => exact ⟨1, by omega, rfl, by simp⟩
      case measure => simp [intOf]
    | 1, _ =>
      simp only [pre3]
      go_wp2_with fail
      go_round
      case rel => exact ⟨2, by omega, rfl, by have := HT.out; show Value.int .i64 _ = Value.int .i64 ((t : Nat) : Int); congr 1; omega⟩
      case measure => simp [intOf]
    | 2, _ =>
      simp only [pre3]
      go_wp2_with fail
      refine (growInts_any t _ t1).mono ?_
      rintro e w1 ⟨v1, rfl, o1, b1⟩
      go_wp2_with fail
      go_loopw [6, 27] (fun v i wr => ∃ k : Nat, k ≤ 2 ∧ i = .int .i64 k ∧ wr.ownsRow w.heap.size 3 1 v (pre3 k 0 n t) (vals (pre3 k [] xs (xs ++ ys))) ∧ Below w.heap.size w wr) (fun _ i _ => 2 - (intOf i).toNat)
      case atStart => exact ⟨0, by omega, rfl, o1, b1⟩
      case round =>
        obtain ⟨k, hk, rfl, ho, bk⟩ := hrel
        have cc0 := cellKept bk hq hc0
        have cc1 := cellKept bk hq hc1
        match k, hk with
        | 0, _ =>
          simp only [pre3] at ho
          have hx1 := hx.below bk
          have sz := bk.size
          go_wp2_with (at_builtin; refine appendMany _ rfl (.tmp 31) (.tmp 32) rfl w.heap.size _ A 0 n c [] xs rfl ho rfl hnil hx1 (by omega) (by omega) sz ?_; intro v2 w2 own2 b2; rw [Nat.zero_add, List.nil_append] at own2)
          go_roundw
          case rel => exact ⟨1, by omega, rfl, own2, bk.trans b2⟩
          case measure => simp [intOf]
        | 1, _ =>
          simp only [pre3] at ho
          have hy1 := hy.below bk
          have sz := bk.size
          go_wp2_with (at_builtin; refine appendMany _ rfl (.tmp 31) (.tmp 32) rfl w.heap.size _ B n m d xs ys rfl ho rfl hnil2 hy1 (by omega) (by omega) sz ?_; intro v2 w2 own2 b2; rw [HT.out] at own2)
          go_roundw
          case rel => exact ⟨2, by omega, rfl, own2, bk.trans b2⟩
          case measure => simp [intOf]
        | 2, _ =>
          simp only [pre3] at ho
          obtain ⟨R, c', rfl, ho'⟩ := ownOf ho
          go_wp2_with fail
          go_ret
          exact ⟨R, c', rfl, ho', bk⟩

end Go.Proofs.Yteiibneaihdmbaa

/- The program's test of a circuit: IsCircuit. For every circuit of at most 1048576 gates and outs. -/
namespace Go.Proofs.Yteiibneaihdmbaa
open Go.RowKit
set_option maxRecDepth 100000


theorem allIn_no {lo hi : Int} {zs : List Int} {k : Nat} (hk : k < zs.length) (h : ¬ (lo ≤ zs.getD k 0 ∧ zs.getD k 0 ≤ hi)) : allIn lo hi zs = false := by
  cases e : allIn lo hi zs with
  | false => rfl
  | true => exact absurd (allIn_yes e k hk) h

/-- The closure that IsCircuit hands to the library: is a number no wire of the circuit? -/
theorem isCircuit1_any (q : Nat) (G : Option Addr) (n c : Nat) (O : Option Addr) (m d : Nat) (C : Ci) (z : Int) (b : Bool) (w : World) (hb : (decide (0 ≤ z) && decide (z ≤ C.wires - 1)) = b)
    (h : HasC w (.agg #[.int .i64 C.in0, .int .i64 C.in1, .slice G n c, .slice O m d]) C) (hq : Blk w q #[.int .i64 C.in0, .int .i64 C.in1, .slice G n c, .slice O m d] 29)
    (h0 : 0 ≤ C.in0) (h1 : C.in0 ≤ 1000) (h2 : 0 ≤ C.in1) (h3 : C.in1 ≤ 1000) (hl : C.gs.length ≤ 1048576) :
    Calls Try.prog 120 #[.int .i64 z, .pointer (some ⟨q, 0, none⟩)] w fun e w' => e = .returned (.bool (!b)) ∧ Below w.heap.size w w' := by
  obtain ⟨k0, k1, k2, k3⟩ := hq.four
  have HW := Lib.hid (fun w h => wiresIn_any (.agg #[.int .i64 C.in0, .int .i64 C.in1, .slice G n c, .slice O m d]) C w h h0 h1 h2 h3 hl)
  have HB : Hid (∀ w : World, Calls Try.prog 117 #[.int .i64 z, .int .i64 C.wires] w fun e w' => e = .returned (.bool b) ∧ w = w') := fun w => isBelow_any z C.wires b w (by rw [← hb]; exact wireOk_lt C.wires z)
  have HH := Lib.hid h
  clear h hb
  go_enter Try.func120, Try.ntmps120
  go_wp2_with fail
  refine (HW.out _ HH.out).mono ?_
  rintro e w2 ⟨rfl, b2⟩
  go_wp2_with fail
  refine (HB.out _).mono ?_
  rintro e w3 ⟨rfl, rfl⟩
  go_wp2_with fail
  go_ret
  exact ⟨rfl, b2⟩

set_option maxHeartbeats 2000000 in
/-- The library's search (slices.IndexFunc) with that closure: the first out that is no wire. -/
theorem isCircuitIdx_any (q : Nat) (G : Option Addr) (n c : Nat) (O : Option Addr) (m d : Nat) (C : Ci) (b : Bool) (w : World) (hb : allIn 0 (C.wires - 1) C.os = b)
    (h : HasC w (.agg #[.int .i64 C.in0, .int .i64 C.in1, .slice G n c, .slice O m d]) C) (hO : Has w O m C.os) (hm : m ≤ 1048576) (hq : Blk w q #[.int .i64 C.in0, .int .i64 C.in1, .slice G n c, .slice O m d] 29)
    (h0 : 0 ≤ C.in0) (h1 : C.in0 ≤ 1000) (h2 : 0 ≤ C.in1) (h3 : C.in1 ≤ 1000) (hl : C.gs.length ≤ 1048576) :
    Calls Try.prog 150 #[.slice O m d, .func (.func 120) #[] #[.pointer (some ⟨q, 0, none⟩)]] w fun e w' => ∃ j : Int, e = .returned (.int .i64 j) ∧ decide (0 ≤ j) = (!b) ∧ Below w.heap.size w w' := by
  have HL := Lib.hid hO.1
  have HB := Lib.hid hb
  clear hb
  go_enter Try.func150, Try.ntmps150
  go_wp2_with fail
  go_loopw [8] (fun i wr => ∃ k : Nat, k ≤ m ∧ i = .int .i64 k ∧ Hid (∀ j, j < k → 0 ≤ C.os.getD j 0 ∧ C.os.getD j 0 ≤ C.wires - 1) ∧ Below w.heap.size w wr) (fun i _ => m - (intOf i).toNat)
  case atStart => exact ⟨0, Nat.zero_le _, rfl, fun j hj => absurd hj (by omega), Below.refl _ _⟩
  case round =>
    obtain ⟨k, hk, rfl, HN, bk⟩ := hrel
    by_cases hlt : k < m
    · obtain ⟨ad, z, rfl, hc, HZ⟩ := (hO.below bk).elem hlt
      have hk1 := h.below bk
      have hqk := hq.below' bk
      have q0 : (0 : Int) ≤ (k : Int) := by omega
      have q1 : (k : Int) < (m : Int) := by omega
      obtain ⟨y, hy⟩ : ∃ y, (decide (0 ≤ z) && decide (z ≤ C.wires - 1)) = y := ⟨_, rfl⟩
      have HC := Lib.hid (isCircuit1_any q G n c (some ad) m d C z y wr hy hk1 hqk h0 h1 h2 h3 hl)
      have HY := Lib.hid hy
      have BK := Lib.hid bk
      clear hy hk1 hqk bk
      cases y with
      | false =>
        have e : b = false := by
          rw [← HB.out]
          refine allIn_no (k := k) (by rw [HL.out]; exact hlt) ?_
          rw [← HZ.out]
          rintro ⟨a1, a2⟩
          have := HY.out
          rw [decide_eq_true a1, decide_eq_true a2] at this
          cases this
        subst e
        go_wp2_with fail
        refine (HC.out).mono ?_
        rintro e w2 ⟨rfl, b2⟩
        go_wp2_with fail
        go_ret
        exact ⟨(k : Int), rfl, by simp, BK.out.trans (b2.mono BK.out.size)⟩
      | true =>
        have HN2 : Hid (∀ j, j < k + 1 → 0 ≤ C.os.getD j 0 ∧ C.os.getD j 0 ≤ C.wires - 1) := fun j hj => by
          by_cases e : j = k
          · rw [e, ← HZ.out]
            have := HY.out
            simp at this
            omega
          · exact HN.out j (by omega)
        go_wp2_with fail
        refine (HC.out).mono ?_
        rintro e w2 ⟨rfl, b2⟩
        go_wp2_with fail
        go_roundw
        case rel => exact ⟨k + 1, by omega, by go_num, HN2, BK.out.trans (b2.mono BK.out.size)⟩
        case measure => simp [intOf]; omega
    · have e : b = true := by rw [← HB.out]; exact allIn_mk (fun j hj => HN.out j (by have := HL.out; omega))
      subst e
      go_wp2_with fail
      go_ret
      exact ⟨-1, rfl, rfl, bk⟩

set_option maxHeartbeats 1000000 in
theorem isCircuitAny_any (q : Nat) (G : Option Addr) (n c : Nat) (O : Option Addr) (m d : Nat) (C : Ci) (b : Bool) (w : World) (hb : allIn 0 (C.wires - 1) C.os = b)
    (h : HasC w (.agg #[.int .i64 C.in0, .int .i64 C.in1, .slice G n c, .slice O m d]) C) (hO : Has w O m C.os) (hm : m ≤ 1048576) (hq : Blk w q #[.int .i64 C.in0, .int .i64 C.in1, .slice G n c, .slice O m d] 29)
    (h0 : 0 ≤ C.in0) (h1 : C.in0 ≤ 1000) (h2 : 0 ≤ C.in1) (h3 : C.in1 ≤ 1000) (hl : C.gs.length ≤ 1048576) :
    Calls Try.prog 119 #[.slice O m d, .func (.func 120) #[] #[.pointer (some ⟨q, 0, none⟩)]] w fun e w' => e = .returned (.bool (!b)) ∧ Below w.heap.size w w' := by
  have HI := Lib.hid (isCircuitIdx_any q G n c O m d C b w hb h hO hm hq h0 h1 h2 h3 hl)
  clear hb h hO hq
  go_enter Try.func119, Try.ntmps119
  go_wp2_with fail
  refine (HI.out).mono ?_
  rintro e w2 ⟨j, rfl, hj, b2⟩
  have HJ := Lib.hid hj
  clear hj
  go_wp2_with fail
  go_ret
  exact ⟨by rw [← HJ.out]; rfl, b2⟩

set_option maxHeartbeats 4000000 in
/-- IsCircuit: the program's. -/
theorem isCircuit_any (v : Value) (C : Ci) (b : Bool) (w : World) (h : HasC w v C) (hf : C.gs.length ≤ 1048576 ∧ C.os.length ≤ 1048576) (hb : gd C = b) :
    Calls Try.prog 65 #[v] w fun e w' => e = .returned (.bool b) ∧ Below w.heap.size w w' := by
  obtain ⟨hn, hm⟩ := hf
  obtain ⟨G, n, c, O, m, d, rfl, hG, hO, _, _, _, _⟩ := id h
  have hgl := hG.1
  have hol := hO.1
  have HB := Lib.hid hb
  clear hb
  have B1 := belowNew w (.cells #[.int .i64 C.in0, .int .i64 C.in1, .slice G n c, .slice O m d] 29)
  have p1 := Blk.new w #[.int .i64 C.in0, .int .i64 C.in1, .slice G n c, .slice O m d] 29
  obtain ⟨W1, hW1⟩ : ∃ W, W = w.alloc (.cells #[.int .i64 C.in0, .int .i64 C.in1, .slice G n c, .slice O m d] 29) := ⟨_, rfl⟩
  rw [← hW1] at B1 p1
  have h1 := h.below B1
  have hG1 := hG.below B1
  have hO1 := hO.below B1
  obtain ⟨k0, k1, k2, k3⟩ := p1.four
  have HL : Hid (∀ (q : Int) (w : World), Calls Try.prog 117 #[.int .i64 q, .int .i64 21] w fun e w' => e = .returned (.bool (decide (0 ≤ q) && decide (q < 21))) ∧ w = w') := fun q w => isBelow_any q 21 _ w rfl
  have HP := Lib.hid p1
  have HBel := Lib.hid B1
  have HG := Lib.hid hgl
  have HO := Lib.hid hol
  clear h hG hO hgl hol p1 B1
  cases ea : (decide (0 ≤ C.in0) && decide (C.in0 < 21)) with
  | false =>
    have e : b = false := by
      rw [← HB.out, gd, decide_eq_false (by intro hh; rw [decide_eq_true hh.1, decide_eq_true (show C.in0 < 21 by omega)] at ea; cases ea)]; rfl
    subst e
    go_enter Try.func65, Try.ntmps65
    go_wp2_with fail
    rw [← hW1]
    refine (HL.out _ _).mono ?_
    rintro e w2 ⟨rfl, rfl⟩
    rw [ea]
    go_wp2_with fail
    go_ret
    exact ⟨rfl, belowNew _ _⟩
  | true =>
  cases eb : (decide (0 ≤ C.in1) && decide (C.in1 < 21)) with
  | false =>
    have e : b = false := by
      rw [← HB.out, gd, decide_eq_false (by intro hh; rw [decide_eq_true hh.2.2.1, decide_eq_true (show C.in1 < 21 by omega)] at eb; cases eb)]; rfl
    subst e
    go_enter Try.func65, Try.ntmps65
    go_wp2_with fail
    rw [← hW1]
    refine (HL.out _ _).mono ?_
    rintro e w2 ⟨rfl, rfl⟩
    rw [ea]
    go_wp2_with fail
    refine (HL.out _ _).mono ?_
    rintro e w2 ⟨rfl, rfl⟩
    rw [eb]
    go_wp2_with fail
    go_ret
    exact ⟨rfl, belowNew _ _⟩
  | true =>
  have ea' : 0 ≤ C.in0 ∧ C.in0 < 21 := by simpa using ea
  have eb' : 0 ≤ C.in1 ∧ C.in1 < 21 := by simpa using eb
  have EA := Lib.hid ea
  have EB := Lib.hid eb
  clear ea eb
  obtain ⟨i0, i1⟩ := ea'
  obtain ⟨j0, j1⟩ := eb'
  by_cases c300 : 300 < n
  · have e : b = false := by rw [← HB.out, gd, decide_eq_false (by intro hh; have := HG.out; omega)]; rfl
    subst e
    go_enter Try.func65, Try.ntmps65
    go_wp2_with fail
    rw [← hW1]
    refine (HL.out _ _).mono ?_
    rintro e w2 ⟨rfl, rfl⟩
    rw [EA.out]
    go_wp2_with fail
    refine (HL.out _ _).mono ?_
    rintro e w2 ⟨rfl, rfl⟩
    rw [EB.out]
    go_wp2_with fail
    go_ret
    exact ⟨rfl, belowNew _ _⟩
  · by_cases c40 : 40 < m
    · have e : b = false := by rw [← HB.out, gd, decide_eq_false (by intro hh; have := HO.out; omega)]; rfl
      subst e
      go_enter Try.func65, Try.ntmps65
      go_wp2_with fail
      rw [← hW1]
      refine (HL.out _ _).mono ?_
      rintro e w2 ⟨rfl, rfl⟩
      rw [EA.out]
      go_wp2_with fail
      refine (HL.out _ _).mono ?_
      rintro e w2 ⟨rfl, rfl⟩
      rw [EB.out]
      go_wp2_with fail
      go_ret
      exact ⟨rfl, belowNew _ _⟩
    · have hb2 : (gatesTo C n && allIn 0 (C.wires - 1) C.os) = b := by
        rw [← HB.out, gd, decide_eq_true ⟨i0, by omega, j0, by omega, by have := HG.out; omega, by have := HO.out; omega⟩, Bool.true_and, HG.out]
      have HB2 := Lib.hid hb2
      clear hb2 HB
      have hwi : IntKind.i64.wrap (C.in0 + C.in1) = C.in0 + C.in1 := wrapIn (by omega) (by omega)
      have HWI := Lib.hid hwi
      clear hwi
      go_enter Try.func65, Try.ntmps65
      go_wp2_with fail
      rw [← hW1]
      clear hW1
      refine (HL.out _ _).mono ?_
      rintro e w2 ⟨rfl, rfl⟩
      rw [EA.out]
      go_wp2_with fail
      refine (HL.out _ _).mono ?_
      rintro e w2 ⟨rfl, rfl⟩
      rw [EB.out]
      go_wp2_with fail
      clear k0 k1 k2 k3
      go_loopw [30] (fun iv wr => ∃ k : Nat, k ≤ n ∧ iv = .int .i64 k ∧ Hid (gatesTo C k = true) ∧ Below W1.heap.size W1 wr) (fun iv _ => n - (intOf iv).toNat)
      case atStart => exact ⟨0, Nat.zero_le _, rfl, rfl, Below.refl _ _⟩
      case round =>
        obtain ⟨k, hk, rfl, HT, bk⟩ := hrel
        have pk := HP.out.below' bk
        by_cases hlt : k < n
        · obtain ⟨ad, x, y, z, rfl, hx, hy, hz, HE⟩ := (hG1.below bk).elem hlt
          have q0 : (0 : Int) ≤ (k : Int) := by omega
          have q1 : (k : Int) < (n : Int) := by omega
          have b2 := belowNew wr (.cells #[.int .i64 x, .int .i64 y, .int .i64 z] 69)
          have y2 := Blk.new wr #[.int .i64 x, .int .i64 y, .int .i64 z] 69
          have p2 := pk.below' b2
          obtain ⟨w2, hw2⟩ : ∃ W, W = wr.alloc (.cells #[.int .i64 x, .int .i64 y, .int .i64 z] 69) := ⟨_, rfl⟩
          rw [← hw2] at b2 y2 p2
          obtain ⟨k0, k1, k2, k3⟩ := p2.four
          have g0c := y2.cell (i := 0) rfl
          have g1c := y2.cell (i := 1) rfl
          have g2c := y2.cell (i := 2) rfl
          have hwi := HWI.out
          have hwr : IntKind.i64.wrap (C.in0 + C.in1 + (k : Int)) = C.in0 + C.in1 + (k : Int) := wrapIn (by omega) (by omega)
          obtain ⟨gb, hgb⟩ : ∃ gb, gateOk (C.in0 + C.in1 + (k : Int)) (x, y, z) = gb := ⟨_, rfl⟩
          have HGA := Lib.hid (fun w => isGate_any x y z (C.in0 + C.in1 + (k : Int)) gb w hgb)
          have hgb2 : gateOk (C.ins + (k : Int)) (C.gs.getD k g0) = gb := by rw [HE.out]; exact hgb
          have HGB := Lib.hid hgb2
          have BK := Lib.hid (bk.trans (b2.mono bk.size))
          clear hgb hgb2 bk b2
          go_upto_region 6 with fail
          rw [← hw2]
          clear hw2 hx hy hz
          go_wp2_with fail
          refine (HGA.out _).mono ?_
          rintro e w4 ⟨rfl, b4⟩
          have BE := BK.out.trans (b4.mono BK.out.size)
          clear k0 k1 k2 k3 g0c g1c g2c
          cases gb with
          | false =>
            have e : b = false := by rw [← HB2.out, gatesTo_no hlt HGB.out, Bool.false_and]
            subst e
            go_wp2_with fail
            go_ret
            exact ⟨rfl, HBel.out.trans (BE.mono HBel.out.size)⟩
          | true =>
            go_wp2_with fail
            go_roundw
            case rel => exact ⟨k + 1, by omega, by go_num, by show _ = _; rw [gatesTo, HT.out, HGB.out]; rfl, BE⟩
            case measure => simp [intOf]; omega
        · obtain rfl : k = n := by omega
          have hal : allIn 0 (C.wires - 1) C.os = b := by rw [← HB2.out, HT.out, Bool.true_and]
          have HA := Lib.hid (isCircuitAny_any w.heap.size G k c O m d C b wr hal (h1.below bk) (hO1.below bk) (by have := HO.out; omega) pk i0 (by omega) j0 (by omega) hn)
          obtain ⟨k0, k1, k2, k3⟩ := pk.four
          have BK := Lib.hid bk
          clear hal bk
          go_wp2_with fail
          refine (HA.out).mono ?_
          rintro e w3 ⟨rfl, b3⟩
          go_wp2_with fail
          go_ret
          exact ⟨by cases b <;> rfl, HBel.out.trans ((BK.out.trans (b3.mono BK.out.size)).mono HBel.out.size)⟩

theorem impl_IsCircuit (v : Value) (C : Ci) (r : Bool) (w : World) (h : HasC w v C) (hf : Fit C) (hm : m_IsCircuit C = r) :
    Calls Try.prog 65 #[v] w fun e w' => e = .returned (.bool r) ∧ Below w.heap.size w w' := isCircuit_any v C r w h (fitLen hf) hm

end Go.Proofs.Yteiibneaihdmbaa

/- The program's values of wires: WireValues. For every circuit of at most 1048576 gates and outs and every two lists of at most 16777216 numbers. -/
namespace Go.Proofs.Yteiibneaihdmbaa
open Go.RowKit
set_option maxRecDepth 100000

end Go.Proofs.Yteiibneaihdmbaa

/- The program's values of wires: WireValues. For every circuit of at most 1048576 gates and outs and every two lists of at most 16777216 numbers. -/
namespace Go.Proofs.Yteiibneaihdmbaa
open Go.RowKit
set_option maxRecDepth 100000

theorem asked64 {C : Ci} {a b : List Int} : asked C a b = (gd C && good 64 a && good 64 b && decide ((a.length : Int) = C.in0) && decide ((b.length : Int) = C.in1)) := by
  rw [asked]
  cases e : gd C with
  | false => rfl
  | true =>
    have hG := gd_yes e
    have h1 := hG.a1
    have h2 := hG.b1
    by_cases l1 : (a.length : Int) = C.in0
    · by_cases l2 : (b.length : Int) = C.in1
      · have g1 : good 20 a = good 64 a := by unfold good; rw [decide_eq_true (by omega), decide_eq_true (by omega)]
        have g2 : good 20 b = good 64 b := by unfold good; rw [decide_eq_true (by omega), decide_eq_true (by omega)]
        rw [g1, g2]
      · rw [decide_eq_false l2, Bool.and_false, Bool.and_false]
    · rw [decide_eq_false l1, Bool.and_false, Bool.and_false]

end Go.Proofs.Yteiibneaihdmbaa
