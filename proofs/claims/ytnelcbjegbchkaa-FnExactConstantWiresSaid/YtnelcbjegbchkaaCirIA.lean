/- Several texts in one: CirI1, CirI2, CirI3, CirI4, CirI5. What each says stands at its head. -/
import Derived.Test.YtnelcbjegbchkaaCirM1
import Derived.Test.YtnelcbjegbchkaaCirG1
import Derived.Deep.RegionHeld3
import Derived.Deep.DeepCutAuto
import Derived.Test.YtnelcbjegbchkaaCirA2
import Derived.Lib.AppendZeros
import Derived.Test.YtnelcbjegbchkaaCirG3
import Derived.BigQuiet
import Derived.Deep.QuietTactic
import Derived.Test.YtnelcbjegbchkaaCirG4

/- The program's tests of numbers and of gates; its number of wires. For circuits of at most 1048576 gates and outs. -/
namespace Go.Proofs.Ytnelcbjegbchkaa
open Go.RowKit
set_option maxRecDepth 100000


set_option maxHeartbeats 400000 in
theorem isBelow_any (n l : Int) (b : Bool) (w : World) (hb : (decide (0 ≤ n) && decide (n < l)) = b) :
    Calls Try.prog 57 #[.int .i64 n, .int .i64 l] w fun e w' => e = .returned (.bool b) ∧ w = w' := by
  subst hb
  by_cases h1 : 0 ≤ n
  · by_cases h2 : n < l
    · go_enter Try.func57, Try.ntmps57
      go_wp2
      go_ret
      exact ⟨by simp [h1, h2], rfl⟩
    · go_enter Try.func57, Try.ntmps57
      go_wp2
      go_ret
      exact ⟨by simp; omega, rfl⟩
  · go_enter Try.func57, Try.ntmps57
    go_wp2
    go_ret
    exact ⟨by simp; omega, rfl⟩

theorem wireOk_lt (n z : Int) : (decide (0 ≤ z) && decide (z < n)) = wireOk n z := by
  unfold wireOk
  congr 1
  exact decide_eq_decide.2 (by omega)

set_option maxHeartbeats 1000000 in
theorem isGate_any (x y z n : Int) (b : Bool) (w : World) (hb : gateOk n (x, y, z) = b) :
    Calls Try.prog 144 #[.agg #[.int .i64 x, .int .i64 y, .int .i64 z], .int .i64 n] w fun e w' => e = .returned (.bool b) ∧ Below w.heap.size w w' := by
  have B1 := belowNew w (.cells #[.int .i64 x, .int .i64 y, .int .i64 z] 72)
  have HL : Hid (∀ (q : Int) (w : World), Calls Try.prog 57 #[.int .i64 q, .int .i64 n] w fun e w' => e = .returned (.bool (wireOk n q)) ∧ w = w') := fun q w => isBelow_any q n _ w (wireOk_lt n q)
  by_cases c0 : x = 0 ∨ x = 1
  · have hb' : (wireOk n y && wireOk n z) = b := by rw [← hb, gateOk, if_pos c0]
    have HB := Lib.hid hb'
    clear hb hb'
    cases hy : wireOk n y with
    | false =>
      have e : b = false := by rw [← HB.out, hy, Bool.false_and]
      subst e
      rcases c0 with rfl | rfl
      all_goals
        go_enter Try.func144, Try.ntmps144
        go_wp2_with fail
        refine (HL.out y _).mono ?_
        rintro e w1 ⟨rfl, rfl⟩
        rw [hy]
        go_wp2_with fail
        go_ret
        exact ⟨rfl, B1⟩
    | true =>
      have e : b = wireOk n z := by rw [← HB.out, hy, Bool.true_and]
      subst e
      rcases c0 with rfl | rfl
      all_goals
        go_enter Try.func144, Try.ntmps144
        go_wp2_with fail
        refine (HL.out y _).mono ?_
        rintro e w1 ⟨rfl, rfl⟩
        rw [hy]
        go_wp2_with fail
        refine (HL.out z _).mono ?_
        rintro e w1 ⟨rfl, rfl⟩
        go_wp2_with fail
        go_ret
        exact ⟨rfl, B1⟩
  · by_cases c2 : x = 2
    · have hb' : (wireOk n y && decide (z = 0)) = b := by rw [← hb, gateOk, if_neg c0, if_pos c2]
      have HB := Lib.hid hb'
      clear hb hb' c0
      subst c2
      cases hy : wireOk n y with
      | false =>
        have e : b = false := by rw [← HB.out, hy, Bool.false_and]
        subst e
        go_enter Try.func144, Try.ntmps144
        go_wp2_with fail
        refine (HL.out y _).mono ?_
        rintro e w1 ⟨rfl, rfl⟩
        rw [hy]
        go_wp2_with fail
        go_ret
        exact ⟨rfl, B1⟩
      | true =>
        have e : b = decide (z = 0) := by rw [← HB.out, hy, Bool.true_and]
        subst e
        go_enter Try.func144, Try.ntmps144
        go_wp2_with fail
        refine (HL.out y _).mono ?_
        rintro e w1 ⟨rfl, rfl⟩
        rw [hy]
        go_wp2_with fail
        go_ret
        exact ⟨by congr 2, B1⟩
    · have hb' : decide ((x, y, z) = ((3, 0, 0) : Ga)) = b := by rw [← hb, gateOk, if_neg c0, if_neg c2]
      have HB := Lib.hid hb'
      have x0 : x ≠ 0 := fun e => c0 (.inl e)
      have x1 : x ≠ 1 := fun e => c0 (.inr e)
      clear hb hb' c0
      go_enter Try.func144, Try.ntmps144
      go_wp2_with fail
      all_goals
        go_ret
        refine ⟨?_, belowNew w _⟩
        have hbb := HB.out
        clear HB HL B1
        rw [← hbb]
        simp_all
        try exact hbb

set_option maxHeartbeats 1000000 in
theorem wiresIn_any (v : Value) (C : Ci) (w : World) (h : HasC w v C) (h0 : 0 ≤ C.in0) (h1 : C.in0 ≤ 1000) (h2 : 0 ≤ C.in1) (h3 : C.in1 ≤ 1000) (hl : C.gs.length ≤ 1048576) :
    Calls Try.prog 147 #[v] w fun e w' => e = .returned (.int .i64 C.wires) ∧ Below w.heap.size w w' := by
  obtain ⟨G, n, c, O, m, d, rfl, hG, hO, h5⟩ := h
  have hgl := hG.1
  have hw : C.in0 + C.in1 + (n : Int) = C.wires := by rw [Ci.wires, hgl]
  have w1 : IntKind.i64.wrap (C.in0 + C.in1) = C.in0 + C.in1 := wrapIn (by omega) (by omega)
  have w2 : IntKind.i64.wrap (C.in0 + C.in1 + (n : Int)) = C.in0 + C.in1 + (n : Int) := wrapIn (by omega) (by omega)
  have B1 := belowNew w (.cells #[.int .i64 C.in0, .int .i64 C.in1, .slice G n c, .slice O m d] 34)
  have HW := Lib.hid hw
  clear hw hG hO h5
  go_enter Try.func147, Try.ntmps147
  go_wp2
  go_ret
  exact ⟨retI HW.out, B1⟩

end Go.Proofs.Ytnelcbjegbchkaa

/- The library's joining of two lists (slices.Concat over slices.Grow), at integers and at gates; make with room to spare. For slices of at most 16777216 elements. -/
namespace Go.Proofs.Ytnelcbjegbchkaa
open Go.RowKit
set_option maxRecDepth 100000


/-- make([]int, 0, n): a row with room for n. -/
theorem makeSpare {ops : Array Oper} {rest : List Oper} {o : Oper} {a : Act} {Q : Exit → Act → World → Prop} (w : World) (hg : o.guard = none) (l c : Operand) (hop : o.op = Op.makeSlice 26 l c)
    (n : Nat) (hl : a.eval l = .int .i64 0) (hc : a.eval c = .int .i64 (n : Int)) (hn : n ≤ 16777216)
    (hK : ∀ w', Own w' w.heap.size (some ⟨w.heap.size, 0, none⟩) 0 n [] → Below w.heap.size w w' → wpList Try.prog ops Q rest (a.put o.dst (.slice (some ⟨w.heap.size, 0, none⟩) 0 n)) w') :
    wpList Try.prog ops Q (o :: rest) a w := by
  obtain ⟨i0, hi, hz0, hz1, hz2⟩ := info_parts infoInt
  refine wpList_make_own _ hg l c 26 hop w.heap.size 3 i0 (.int .i64 0) 1 Try.underlying26 hi hz0 hz1 .i64 .i64 _ n hl hc rfl (by rw [hz2]; omega) (by simp only [maxLen]; omega) (Nat.le_refl _) ?_
  intro w1 hown hgrow
  exact hK w1 ⟨rfl, hown⟩ (belowOf hgrow)

theorem size_zeroes (cs : Array Value) : ∀ n, (Builtin.zeroCells cs n).size = n * cs.size
  | 0 => by simp [Builtin.zeroCells]
  | n + 1 => by simp [Builtin.zeroCells]

/-- One of three, by a number. -/
def pre3 {α : Type} (k : Nat) (a b c : α) : α := match k with | 0 => a | 1 => b | _ => c

end Go.Proofs.Ytnelcbjegbchkaa

/- The program's test of a circuit: IsCircuit. For every circuit of at most 1048576 gates and outs. -/
namespace Go.Proofs.Ytnelcbjegbchkaa
open Go.RowKit
set_option maxRecDepth 100000


theorem allIn_no {lo hi : Int} {zs : List Int} {k : Nat} (hk : k < zs.length) (h : ¬ (lo ≤ zs.getD k 0 ∧ zs.getD k 0 ≤ hi)) : allIn lo hi zs = false := by
  cases e : allIn lo hi zs with
  | false => rfl
  | true => exact absurd (allIn_yes e k hk) h

/-- The closure that IsCircuit hands to the library: is a number no wire of the circuit? -/
theorem isCircuit1_any (q : Nat) (G : Option Addr) (n c : Nat) (O : Option Addr) (m d : Nat) (C : Ci) (z : Int) (b : Bool) (w : World) (hb : (decide (0 ≤ z) && decide (z ≤ C.wires - 1)) = b)
    (h : HasC w (.agg #[.int .i64 C.in0, .int .i64 C.in1, .slice G n c, .slice O m d]) C) (hq : Blk w q #[.int .i64 C.in0, .int .i64 C.in1, .slice G n c, .slice O m d] 34)
    (h0 : 0 ≤ C.in0) (h1 : C.in0 ≤ 1000) (h2 : 0 ≤ C.in1) (h3 : C.in1 ≤ 1000) (hl : C.gs.length ≤ 1048576) :
    Calls Try.prog 146 #[.int .i64 z, .pointer (some ⟨q, 0, none⟩)] w fun e w' => e = .returned (.bool (!b)) ∧ Below w.heap.size w w' := by
  obtain ⟨k0, k1, k2, k3⟩ := hq.four
  have HW := Lib.hid (fun w h => wiresIn_any (.agg #[.int .i64 C.in0, .int .i64 C.in1, .slice G n c, .slice O m d]) C w h h0 h1 h2 h3 hl)
  have HB : Hid (∀ w : World, Calls Try.prog 57 #[.int .i64 z, .int .i64 C.wires] w fun e w' => e = .returned (.bool b) ∧ w = w') := fun w => isBelow_any z C.wires b w (by rw [← hb]; exact wireOk_lt C.wires z)
  have HH := Lib.hid h
  clear h hb
  go_enter Try.func146, Try.ntmps146
  go_wp2_with fail
  refine (HW.out _ HH.out).mono ?_
  rintro e w2 ⟨rfl, b2⟩
  go_wp2_with fail
  refine (HB.out _).mono ?_
  rintro e w3 ⟨rfl, rfl⟩
  go_wp2_with fail
  go_ret
  exact ⟨rfl, b2⟩

set_option maxHeartbeats 2000000 in
/-- The library's search (slices.IndexFunc) with that closure: the first out that is no wire. -/
theorem isCircuitIdx_any (q : Nat) (G : Option Addr) (n c : Nat) (O : Option Addr) (m d : Nat) (C : Ci) (b : Bool) (w : World) (hb : allIn 0 (C.wires - 1) C.os = b)
    (h : HasC w (.agg #[.int .i64 C.in0, .int .i64 C.in1, .slice G n c, .slice O m d]) C) (hO : Has w O m C.os) (hm : m ≤ 1048576) (hq : Blk w q #[.int .i64 C.in0, .int .i64 C.in1, .slice G n c, .slice O m d] 34)
    (h0 : 0 ≤ C.in0) (h1 : C.in0 ≤ 1000) (h2 : 0 ≤ C.in1) (h3 : C.in1 ≤ 1000) (hl : C.gs.length ≤ 1048576) :
    Calls Try.prog 167 #[.slice O m d, .func (.func 146) #[] #[.pointer (some ⟨q, 0, none⟩)]] w fun e w' => ∃ j : Int, e = .returned (.int .i64 j) ∧ decide (0 ≤ j) = (!b) ∧ Below w.heap.size w w' := by
  have HL := Lib.hid hO.1
  have HB := Lib.hid hb
  clear hb
  go_enter Try.func167, Try.ntmps167
  go_wp2_with fail
  go_loopw [8] (fun i wr => ∃ k : Nat, k ≤ m ∧ i = .int .i64 k ∧ Hid (∀ j, j < k → 0 ≤ C.os.getD j 0 ∧ C.os.getD j 0 ≤ C.wires - 1) ∧ Below w.heap.size w wr) (fun i _ => m - (intOf i).toNat)
  case atStart => exact ⟨0, Nat.zero_le _, rfl, fun j hj => absurd hj (by omega), Below.refl _ _⟩
  case round =>
    obtain ⟨k, hk, rfl, HN, bk⟩ := hrel
    by_cases hlt : k < m
    · obtain ⟨ad, z, rfl, hc, HZ⟩ := (hO.below bk).elem hlt
      have hk1 := h.below bk
      have hqk := hq.below' bk
      have q0 : (0 : Int) ≤ (k : Int) := by omega
      have q1 : (k : Int) < (m : Int) := by omega
      obtain ⟨y, hy⟩ : ∃ y, (decide (0 ≤ z) && decide (z ≤ C.wires - 1)) = y := ⟨_, rfl⟩
      have HC := Lib.hid (isCircuit1_any q G n c (some ad) m d C z y wr hy hk1 hqk h0 h1 h2 h3 hl)
      have HY := Lib.hid hy
      have BK := Lib.hid bk
      clear hy hk1 hqk bk
      cases y with
      | false =>
        have e : b = false := by
          rw [← HB.out]
          refine allIn_no (k := k) (by rw [HL.out]; exact hlt) ?_
          rw [← HZ.out]
          rintro ⟨a1, a2⟩
          have := HY.out
          rw [decide_eq_true a1, decide_eq_true a2] at this
          cases this
        subst e
        go_wp2_with fail
        refine (HC.out).mono ?_
        rintro e w2 ⟨rfl, b2⟩
        go_wp2_with fail
        go_ret
        exact ⟨(k : Int), rfl, by simp, BK.out.trans (b2.mono BK.out.size)⟩
      | true =>
        have HN2 : Hid (∀ j, j < k + 1 → 0 ≤ C.os.getD j 0 ∧ C.os.getD j 0 ≤ C.wires - 1) := fun j hj => by
          by_cases e : j = k
          · rw [e, ← HZ.out]
            have := HY.out
            simp at this
            omega
          · exact HN.out j (by omega)
        go_wp2_with fail
        refine (HC.out).mono ?_
        rintro e w2 ⟨rfl, b2⟩
        go_wp2_with fail
        go_roundw
        case rel => exact ⟨k + 1, by omega, by go_num, HN2, BK.out.trans (b2.mono BK.out.size)⟩
        case measure => simp [intOf]; omega
    · have e : b = true := by rw [← HB.out]; exact allIn_mk (fun j hj => HN.out j (by have := HL.out; omega))
      subst e
      go_wp2_with fail
      go_ret
      exact ⟨-1, rfl, rfl, bk⟩

set_option maxHeartbeats 1000000 in
theorem isCircuitAny_any (q : Nat) (G : Option Addr) (n c : Nat) (O : Option Addr) (m d : Nat) (C : Ci) (b : Bool) (w : World) (hb : allIn 0 (C.wires - 1) C.os = b)
    (h : HasC w (.agg #[.int .i64 C.in0, .int .i64 C.in1, .slice G n c, .slice O m d]) C) (hO : Has w O m C.os) (hm : m ≤ 1048576) (hq : Blk w q #[.int .i64 C.in0, .int .i64 C.in1, .slice G n c, .slice O m d] 34)
    (h0 : 0 ≤ C.in0) (h1 : C.in0 ≤ 1000) (h2 : 0 ≤ C.in1) (h3 : C.in1 ≤ 1000) (hl : C.gs.length ≤ 1048576) :
    Calls Try.prog 145 #[.slice O m d, .func (.func 146) #[] #[.pointer (some ⟨q, 0, none⟩)]] w fun e w' => e = .returned (.bool (!b)) ∧ Below w.heap.size w w' := by
  have HI := Lib.hid (isCircuitIdx_any q G n c O m d C b w hb h hO hm hq h0 h1 h2 h3 hl)
  clear hb h hO hq
  go_enter Try.func145, Try.ntmps145
  go_wp2_with fail
  refine (HI.out).mono ?_
  rintro e w2 ⟨j, rfl, hj, b2⟩
  have HJ := Lib.hid hj
  clear hj
  go_wp2_with fail
  go_ret
  exact ⟨by rw [← HJ.out]; rfl, b2⟩

set_option maxHeartbeats 4000000 in
/-- IsCircuit: the program's. -/
theorem isCircuit_any (v : Value) (C : Ci) (b : Bool) (w : World) (h : HasC w v C) (hf : C.gs.length ≤ 1048576 ∧ C.os.length ≤ 1048576) (hb : gd C = b) :
    Calls Try.prog 74 #[v] w fun e w' => e = .returned (.bool b) ∧ Below w.heap.size w w' := by
  obtain ⟨hn, hm⟩ := hf
  obtain ⟨G, n, c, O, m, d, rfl, hG, hO, _, _, _, _⟩ := id h
  have hgl := hG.1
  have hol := hO.1
  have HB := Lib.hid hb
  clear hb
  have B1 := belowNew w (.cells #[.int .i64 C.in0, .int .i64 C.in1, .slice G n c, .slice O m d] 34)
  have p1 := Blk.new w #[.int .i64 C.in0, .int .i64 C.in1, .slice G n c, .slice O m d] 34
  obtain ⟨W1, hW1⟩ : ∃ W, W = w.alloc (.cells #[.int .i64 C.in0, .int .i64 C.in1, .slice G n c, .slice O m d] 34) := ⟨_, rfl⟩
  rw [← hW1] at B1 p1
  have h1 := h.below B1
  have hG1 := hG.below B1
  have hO1 := hO.below B1
  obtain ⟨k0, k1, k2, k3⟩ := p1.four
  have HL : Hid (∀ (q : Int) (w : World), Calls Try.prog 57 #[.int .i64 q, .int .i64 21] w fun e w' => e = .returned (.bool (decide (0 ≤ q) && decide (q < 21))) ∧ w = w') := fun q w => isBelow_any q 21 _ w rfl
  have HP := Lib.hid p1
  have HBel := Lib.hid B1
  have HG := Lib.hid hgl
  have HO := Lib.hid hol
  clear h hG hO hgl hol p1 B1
  cases ea : (decide (0 ≤ C.in0) && decide (C.in0 < 21)) with
  | false =>
    have e : b = false := by
      rw [← HB.out, gd, decide_eq_false (by intro hh; rw [decide_eq_true hh.1, decide_eq_true (show C.in0 < 21 by omega)] at ea; cases ea)]; rfl
    subst e
    go_enter Try.func74, Try.ntmps74
    go_wp2_with fail
    rw [← hW1]
    refine (HL.out _ _).mono ?_
    rintro e w2 ⟨rfl, rfl⟩
    rw [ea]
    go_wp2_with fail
    go_ret
    exact ⟨rfl, belowNew _ _⟩
  | true =>
  cases eb : (decide (0 ≤ C.in1) && decide (C.in1 < 21)) with
  | false =>
    have e : b = false := by
      rw [← HB.out, gd, decide_eq_false (by intro hh; rw [decide_eq_true hh.2.2.1, decide_eq_true (show C.in1 < 21 by omega)] at eb; cases eb)]; rfl
    subst e
    go_enter Try.func74, Try.ntmps74
    go_wp2_with fail
    rw [← hW1]
    refine (HL.out _ _).mono ?_
    rintro e w2 ⟨rfl, rfl⟩
    rw [ea]
    go_wp2_with fail
    refine (HL.out _ _).mono ?_
    rintro e w2 ⟨rfl, rfl⟩
    rw [eb]
    go_wp2_with fail
    go_ret
    exact ⟨rfl, belowNew _ _⟩
  | true =>
  have ea' : 0 ≤ C.in0 ∧ C.in0 < 21 := by simpa using ea
  have eb' : 0 ≤ C.in1 ∧ C.in1 < 21 := by simpa using eb
  have EA := Lib.hid ea
  have EB := Lib.hid eb
  clear ea eb
  obtain ⟨i0, i1⟩ := ea'
  obtain ⟨j0, j1⟩ := eb'
  by_cases c300 : 300 < n
  · have e : b = false := by rw [← HB.out, gd, decide_eq_false (by intro hh; have := HG.out; omega)]; rfl
    subst e
    go_enter Try.func74, Try.ntmps74
    go_wp2_with fail
    rw [← hW1]
    refine (HL.out _ _).mono ?_
    rintro e w2 ⟨rfl, rfl⟩
    rw [EA.out]
    go_wp2_with fail
    refine (HL.out _ _).mono ?_
    rintro e w2 ⟨rfl, rfl⟩
    rw [EB.out]
    go_wp2_with fail
    go_ret
    exact ⟨rfl, belowNew _ _⟩
  · by_cases c40 : 40 < m
    · have e : b = false := by rw [← HB.out, gd, decide_eq_false (by intro hh; have := HO.out; omega)]; rfl
      subst e
      go_enter Try.func74, Try.ntmps74
      go_wp2_with fail
      rw [← hW1]
      refine (HL.out _ _).mono ?_
      rintro e w2 ⟨rfl, rfl⟩
      rw [EA.out]
      go_wp2_with fail
      refine (HL.out _ _).mono ?_
      rintro e w2 ⟨rfl, rfl⟩
      rw [EB.out]
      go_wp2_with fail
      go_ret
      exact ⟨rfl, belowNew _ _⟩
    · have hb2 : (gatesTo C n && allIn 0 (C.wires - 1) C.os) = b := by
        rw [← HB.out, gd, decide_eq_true ⟨i0, by omega, j0, by omega, by have := HG.out; omega, by have := HO.out; omega⟩, Bool.true_and, HG.out]
      have HB2 := Lib.hid hb2
      clear hb2 HB
      have hwi : IntKind.i64.wrap (C.in0 + C.in1) = C.in0 + C.in1 := wrapIn (by omega) (by omega)
      have HWI := Lib.hid hwi
      clear hwi
      go_enter Try.func74, Try.ntmps74
      go_wp2_with fail
      rw [← hW1]
      clear hW1
      refine (HL.out _ _).mono ?_
      rintro e w2 ⟨rfl, rfl⟩
      rw [EA.out]
      go_wp2_with fail
      refine (HL.out _ _).mono ?_
      rintro e w2 ⟨rfl, rfl⟩
      rw [EB.out]
      go_wp2_with fail
      clear k0 k1 k2 k3
      go_loopw [30] (fun iv wr => ∃ k : Nat, k ≤ n ∧ iv = .int .i64 k ∧ Hid (gatesTo C k = true) ∧ Below W1.heap.size W1 wr) (fun iv _ => n - (intOf iv).toNat)
      case atStart => exact ⟨0, Nat.zero_le _, rfl, rfl, Below.refl _ _⟩
      case round =>
        obtain ⟨k, hk, rfl, HT, bk⟩ := hrel
        have pk := HP.out.below' bk
        by_cases hlt : k < n
        · obtain ⟨ad, x, y, z, rfl, hx, hy, hz, HE⟩ := (hG1.below bk).elem hlt
          have q0 : (0 : Int) ≤ (k : Int) := by omega
          have q1 : (k : Int) < (n : Int) := by omega
          have b2 := belowNew wr (.cells #[.int .i64 x, .int .i64 y, .int .i64 z] 72)
          have y2 := Blk.new wr #[.int .i64 x, .int .i64 y, .int .i64 z] 72
          have p2 := pk.below' b2
          obtain ⟨w2, hw2⟩ : ∃ W, W = wr.alloc (.cells #[.int .i64 x, .int .i64 y, .int .i64 z] 72) := ⟨_, rfl⟩
          rw [← hw2] at b2 y2 p2
          obtain ⟨k0, k1, k2, k3⟩ := p2.four
          have g0c := y2.cell (i := 0) rfl
          have g1c := y2.cell (i := 1) rfl
          have g2c := y2.cell (i := 2) rfl
          have hwi := HWI.out
          have hwr : IntKind.i64.wrap (C.in0 + C.in1 + (k : Int)) = C.in0 + C.in1 + (k : Int) := wrapIn (by omega) (by omega)
          obtain ⟨gb, hgb⟩ : ∃ gb, gateOk (C.in0 + C.in1 + (k : Int)) (x, y, z) = gb := ⟨_, rfl⟩
          have HGA := Lib.hid (fun w => isGate_any x y z (C.in0 + C.in1 + (k : Int)) gb w hgb)
          have hgb2 : gateOk (C.ins + (k : Int)) (C.gs.getD k g0) = gb := by rw [HE.out]; exact hgb
          have HGB := Lib.hid hgb2
          have BK := Lib.hid (bk.trans (b2.mono bk.size))
          clear hgb hgb2 bk b2
          go_upto_region 6 with fail
          rw [← hw2]
          clear hw2 hx hy hz
          go_wp2_with fail
          refine (HGA.out _).mono ?_
          rintro e w4 ⟨rfl, b4⟩
          have BE := BK.out.trans (b4.mono BK.out.size)
          clear k0 k1 k2 k3 g0c g1c g2c
          cases gb with
          | false =>
            have e : b = false := by rw [← HB2.out, gatesTo_no hlt HGB.out, Bool.false_and]
            subst e
            go_wp2_with fail
            go_ret
            exact ⟨rfl, HBel.out.trans (BE.mono HBel.out.size)⟩
          | true =>
            go_wp2_with fail
            go_roundw
            case rel => exact ⟨k + 1, by omega, by go_num, by show _ = _; rw [gatesTo, HT.out, HGB.out]; rfl, BE⟩
            case measure => simp [intOf]; omega
        · obtain rfl : k = n := by omega
          have hal : allIn 0 (C.wires - 1) C.os = b := by rw [← HB2.out, HT.out, Bool.true_and]
          have HA := Lib.hid (isCircuitAny_any w.heap.size G k c O m d C b wr hal (h1.below bk) (hO1.below bk) (by have := HO.out; omega) pk i0 (by omega) j0 (by omega) hn)
          obtain ⟨k0, k1, k2, k3⟩ := pk.four
          have BK := Lib.hid bk
          clear hal bk
          go_wp2_with fail
          refine (HA.out).mono ?_
          rintro e w3 ⟨rfl, b3⟩
          go_wp2_with fail
          go_ret
          exact ⟨by cases b <;> rfl, HBel.out.trans ((BK.out.trans (b3.mono BK.out.size)).mono HBel.out.size)⟩

theorem impl_IsCircuit (v : Value) (C : Ci) (r : Bool) (w : World) (h : HasC w v C) (hf : Fit C) (hm : m_IsCircuit C = r) :
    Calls Try.prog 74 #[v] w fun e w' => e = .returned (.bool r) ∧ Below w.heap.size w w' := isCircuit_any v C r w h (fitLen hf) hm

end Go.Proofs.Ytnelcbjegbchkaa

/- The program's values of wires: WireValues. For every circuit of at most 1048576 gates and outs and every two lists of at most 16777216 numbers. -/
namespace Go.Proofs.Ytnelcbjegbchkaa
open Go.RowKit
set_option maxRecDepth 100000


set_option maxHeartbeats 1000000 in
/-- The value of a gate. -/
theorem gateValue_any (x y z : Int) (A : Option Addr) (m c : Nat) (vs : List Int) (u : Int) (w : World) (hg : gateOk (m : Int) (x, y, z) = true) (hx : Has w A m vs) (hb : Bits vs) (hu : gval vs (x, y, z) = u) :
    Calls Try.prog 151 #[.agg #[.int .i64 x, .int .i64 y, .int .i64 z], .slice A m c] w fun e w' => e = .returned (.int .i64 u) ∧ Below w.heap.size w w' := by
  have HL := Lib.hid hx.1
  have b1 := belowNew w (.cells #[.int .i64 x, .int .i64 y, .int .i64 z] 72)
  have y1 := Blk.new w #[.int .i64 x, .int .i64 y, .int .i64 z] 72
  have hx1 := hx.below b1
  obtain ⟨W1, hW1⟩ : ∃ W, W = w.alloc (.cells #[.int .i64 x, .int .i64 y, .int .i64 z] 72) := ⟨_, rfl⟩
  rw [← hW1] at b1 y1 hx1
  have g0c := y1.cell (i := 0) rfl
  have g1c := y1.cell (i := 1) rfl
  have g2c := y1.cell (i := 2) rfl
  have HU := Lib.hid hu
  clear y1 hx hu
  rcases gateOk_yes hg with ⟨hx01, hy, hz⟩ | ⟨rfl, hy, rfl⟩ | ⟨rfl, rfl, rfl⟩
  · obtain ⟨jy, rfl⟩ : ∃ j : Nat, y = (j : Int) := ⟨y.toNat, by omega⟩
    obtain ⟨jz, rfl⟩ : ∃ j : Nat, z = (j : Int) := ⟨z.toNat, by omega⟩
    obtain ⟨rd, va, rfl, hcy, HY⟩ := hx1.elem (k := jy) (by omega)
    obtain ⟨rd', vb, e, hcz, HZ⟩ := hx1.elem (k := jz) (by omega)
    injection e with e
    subst e
    have a0 : (0 : Int) ≤ (jy : Int) := by omega
    have a1 : (jy : Int) < (m : Int) := by omega
    have a2 : (0 : Int) ≤ (jz : Int) := by omega
    have a3 : (jz : Int) < (m : Int) := by omega
    have bva : va = 0 ∨ va = 1 := by rw [HY.out]; exact hb jy (by have := HL.out; omega)
    have bvb : vb = 0 ∨ vb = 1 := by rw [HZ.out]; exact hb jz (by have := HL.out; omega)
    clear hg hy hz hb
    rcases hx01 with rfl | rfl
    · have hbx : bits BinOp.xor IntKind.i64 va vb = u := by
        rw [← HU.out, gval]
        simp only [Int.toNat_natCast, ← HY.out, ← HZ.out]
        rcases bva with rfl | rfl <;> rcases bvb with rfl | rfl <;> decide
      clear bva bvb HY HZ HU
      go_enter Try.func151, Try.ntmps151
      go_wp2_with fail
      rw [← hW1]
      clear hW1
      go_quiet (fail)
      go_wp2
      go_ret
      exact ⟨rfl, below_drewN b1 _⟩
    · have hbx : bits BinOp.and IntKind.i64 va vb = u := by
        rw [← HU.out, gval]
        simp only [Int.toNat_natCast, ← HY.out, ← HZ.out]
        rcases bva with rfl | rfl <;> rcases bvb with rfl | rfl <;> decide
      clear bva bvb HY HZ HU
      go_enter Try.func151, Try.ntmps151
      go_wp2_with fail
      rw [← hW1]
      clear hW1
      go_quiet (fail)
      go_wp2
      go_ret
      exact ⟨rfl, below_drewN b1 _⟩
  · obtain ⟨jy, rfl⟩ : ∃ j : Nat, y = (j : Int) := ⟨y.toNat, by omega⟩
    obtain ⟨rd, va, rfl, hcy, HY⟩ := hx1.elem (k := jy) (by omega)
    have a0 : (0 : Int) ≤ (jy : Int) := by omega
    have a1 : (jy : Int) < (m : Int) := by omega
    have bva : va = 0 ∨ va = 1 := by rw [HY.out]; exact hb jy (by have := HL.out; omega)
    have hbx : IntKind.i64.wrap (1 - va) = u := by
      rw [wrapIn (by omega) (by omega), ← HU.out, gval]
      simp only [Int.toNat_natCast, ← HY.out]
      rfl
    clear hg hy hb bva HY HU
    go_enter Try.func151, Try.ntmps151
    go_upto_region 7 with fail
    rw [← hW1]
    clear hW1
    go_wp2
    go_ret
    exact ⟨rfl, b1⟩
  · obtain rfl : 1 = u := HU.out
    clear hg hb HU
    go_enter Try.func151, Try.ntmps151
    go_upto_region 8 with fail
    rw [← hW1]
    clear hW1
    go_wp2
    go_ret
    exact ⟨rfl, b1⟩

end Go.Proofs.Ytnelcbjegbchkaa

/- The program's values of wires: WireValues. For every circuit of at most 1048576 gates and outs and every two lists of at most 16777216 numbers. -/
namespace Go.Proofs.Ytnelcbjegbchkaa
open Go.RowKit
set_option maxRecDepth 100000


set_option maxHeartbeats 4000000 in
theorem wireValues_any (v : Value) (C : Ci) (A : Option Addr) (m cA : Nat) (xs : List Int) (w : World) (h : HasC w v C) (hG : Good C) (hx : Has w A m xs) (hnil : NilOk A m cA) (hb : Bits xs) (hl : (m : Int) = C.ins) :
    Calls Try.prog 139 #[v, .slice A m cA] w fun e w' => ∃ R c', e = .returned (.slice R (m + C.gs.length) c') ∧ Own w' w.heap.size R (m + C.gs.length) c' (valsC C xs) ∧ Below w.heap.size w w' := by
  obtain ⟨G, n, c, O, q, d, rfl, hGs, hO, _, _, _, _⟩ := id h
  have hgl := hGs.1
  have hxl := hx.1
  have i0 := hG.a0
  have i1 := hG.a1
  have j0 := hG.b0
  have j1 := hG.b1
  have m40 : m ≤ 40 := by unfold Ci.ins at hl; omega
  have n300 : n ≤ 300 := by have := hG.g; omega
  have hres : valsC C xs = valsTo C xs n := by rw [valsC, hgl]
  rw [hgl, hres]
  have hwir : C.wires = ((m + n : Nat) : Int) := by unfold Ci.wires; unfold Ci.ins at hl; push_cast; omega
  have HGate : Hid (∀ k, k < n → gateOk ((m + k : Nat) : Int) (C.gs.getD k g0) = true) := fun k hk => by
    have := hG.gate k (by omega)
    rwa [← hl, ← Int.natCast_add] at this
  have HBits : Hid (∀ k, Bits (valsTo C xs k)) := fun k => valsTo_bits hb k
  have HLen : Hid (∀ k, (valsTo C xs k).length = m + k) := fun k => by rw [valsTo_length, hxl]
  have B1 := belowNew w (.cells #[.int .i64 C.in0, .int .i64 C.in1, .slice G n c, .slice O q d] 34)
  have p1 := Blk.new w #[.int .i64 C.in0, .int .i64 C.in1, .slice G n c, .slice O q d] 34
  obtain ⟨W1, hW1⟩ : ∃ W, W = w.alloc (.cells #[.int .i64 C.in0, .int .i64 C.in1, .slice G n c, .slice O q d] 34) := ⟨_, rfl⟩
  rw [← hW1] at B1 p1
  have hx1 := hx.below B1
  have h1 := h.below B1
  have HW := Lib.hid (wiresIn_any _ C W1 h1 i0 (by omega) j0 (by omega) (by omega))
  rw [hwir] at HW
  obtain ⟨k0, k1, k2, k3⟩ := p1.four
  obtain ⟨N, hN⟩ : ∃ N, m + n = N := ⟨_, rfl⟩
  rw [hN] at HW
  have N340 : N ≤ 340 := by omega
  have HN := Lib.hid hN
  clear h hG hO hgl hres hx hb hl hxl hwir i0 i1 j0 j1 h1 hN
  go_enter Try.func139, Try.ntmps139
  go_wp2_with fail
  rw [← hW1]
  clear hW1
  refine (HW.out).mono ?_
  rintro e w2 ⟨rfl, b2⟩
  have p2 := p1.below' b2
  have hx2 := hx1.below b2
  have B2 := B1.trans (b2.mono B1.size)
  have b2' := b2
  have hlt0 : w.heap.size < W1.heap.size := p1.lt
  clear p1 B1 hx1 b2 HW k0 k1 k2 k3
  have s12 := b2'.size
  go_upto_region 2 with (at_make; refine makeSpare _ rfl _ _ rfl N rfl rfl (by omega) ?_; intro w3 o3 b3)
  have o3' := o3.mono s12
  have p3 := p2.below' b3
  have hx3 := hx2.below b3
  have B3 := B2.trans (b3.mono B2.size)
  have s3 := Nat.le_trans s12 b3.size
  have own3 := o3'.2
  clear p2 hx2 b3 o3 o3' b2' B2
  go_upto_region 3 with (at_builtin; refine appendMany _ rfl (.tmp 11) (.tmp 12) rfl W1.heap.size _ A 0 m cA [] xs rfl own3 rfl hnil hx3 (by omega) (by omega) s3 ?_; intro v4 w4 own4 b4; rw [Nat.zero_add, List.nil_append] at own4)
  obtain ⟨R4, c4, rfl, o4⟩ := ownOf own4
  have p4 := p3.below b4 hlt0
  have B4 := B3.trans (b4.mono (Nat.le_of_lt hlt0))
  have o4' := o4.mono (Nat.le_of_lt hlt0)
  obtain ⟨k0, k1, k2, k3⟩ := p4.four
  clear p3 b4 hx3 own3 own4 B3 o4 p4
  go_wp2_with fail
  clear k0 k1 k2 k3
  go_loopw [5, 17] (fun vv iv wr => ∃ (k : Nat) (R : Option Addr) (c' : Nat), k ≤ n ∧ iv = .int .i64 k ∧ vv = .slice R (m + k) c' ∧ Own wr w.heap.size R (m + k) c' (valsTo C xs k) ∧ Below w.heap.size w wr) (fun _ iv _ => n - (intOf iv).toNat)
  case atStart => exact ⟨0, R4, c4, Nat.zero_le _, rfl, rfl, o4', B4⟩
  case round =>
    obtain ⟨k, R, c', hk, rfl, rfl, ho, bk⟩ := hrel
    by_cases hlt : k < n
    · obtain ⟨ad, x, y, z, rfl, hgx, hgy, hgz, HE⟩ := (hGs.below bk).elem hlt
      have hgate := HGate.out k hlt
      rw [HE.out] at hgate
      have b3 := belowNew wr (.cells #[.int .i64 x, .int .i64 y, .int .i64 z] 72)
      have y3 := Blk.new wr #[.int .i64 x, .int .i64 y, .int .i64 z] 72
      have ho3 := ho.below b3
      have q0 : (0 : Int) ≤ (k : Int) := by omega
      have q1 : (k : Int) < (n : Int) := by omega
      obtain ⟨w3, hw3⟩ : ∃ W, W = wr.alloc (.cells #[.int .i64 x, .int .i64 y, .int .i64 z] 72) := ⟨_, rfl⟩
      rw [← hw3] at b3 y3 ho3
      have B3 := bk.trans (b3.mono bk.size)
      have g0c := y3.cell (i := 0) rfl
      have g1c := y3.cell (i := 1) rfl
      have g2c := y3.cell (i := 2) rfl
      obtain ⟨u, hu⟩ : ∃ u, gval (valsTo C xs k) (x, y, z) = u := ⟨_, rfl⟩
      have HV : Hid (valsTo C xs k ++ [u] = valsTo C xs (k + 1)) := by
        show _ = _
        rw [valsTo, HE.out, hu]
      have HC := Lib.hid (gateValue_any x y z R (m + k) c' (valsTo C xs k) u w3 hgate ho3.has (HBits.out k) hu)
      have BK := Lib.hid B3
      clear b3 ho y3 hgate hu B3 bk
      go_upto_region 6 with fail
      rw [← hw3]
      clear hw3 hgx hgy hgz
      go_wp2_with fail
      refine (HC.out).mono ?_
      rintro e w4 ⟨rfl, b4⟩
      have ho4 := ho3.below b4
      have B4 := BK.out.trans (b4.mono BK.out.size)
      have s4 := B4.size
      have own4 := ho4.2
      clear b4 ho3 ho4 HC g0c g1c g2c
      go_wp2_with (at_builtin; refine appendInt w4 rfl (.tmp 21) (.tmp 25) rfl u w.heap.size _ (m + k) _ rfl rfl own4 (by omega) s4 ?_; intro v5 w5 own5 b5)
      rw [HV.out] at own5
      obtain ⟨R5, c5, rfl, ho5⟩ := ownOf own5
      go_roundw
      case rel => exact ⟨k + 1, R5, c5, by omega, by go_num, rfl, ho5, B4.trans b5⟩
      case measure => simp [intOf]; omega
    · obtain rfl : k = n := by omega
      go_wp2_with fail
      go_ret
      exact ⟨R, c', rfl, ho, bk⟩

theorem asked64 {C : Ci} {a b : List Int} : asked C a b = (gd C && good 64 a && good 64 b && decide ((a.length : Int) = C.in0) && decide ((b.length : Int) = C.in1)) := by
  rw [asked]
  cases e : gd C with
  | false => rfl
  | true =>
    have hG := gd_yes e
    have h1 := hG.a1
    have h2 := hG.b1
    by_cases l1 : (a.length : Int) = C.in0
    · by_cases l2 : (b.length : Int) = C.in1
      · have g1 : good 20 a = good 64 a := by unfold good; rw [decide_eq_true (by omega), decide_eq_true (by omega)]
        have g2 : good 20 b = good 64 b := by unfold good; rw [decide_eq_true (by omega), decide_eq_true (by omega)]
        rw [g1, g2]
      · rw [decide_eq_false l2, Bool.and_false, Bool.and_false]
    · rw [decide_eq_false l1, Bool.and_false, Bool.and_false]

end Go.Proofs.Ytnelcbjegbchkaa
