/- The program's map from the words of the gates to their kinds. The words are as start-up lays them. -/
import Derived.Test.YtibaiajanggbdaaGreatDoorCirL6
import Derived.Maps.Own
import Derived.Maps.OwnOps
import Derived.Maps.OwnSet
import Derived.StringKeys
namespace Go.Proofs.YtibaiajanggbdaaGreatDoor
open Go.RowKit Go.Maps
set_option maxRecDepth 100000

theorem keyedStr : Keyed Tryz.prog 9 := string_keyed Tryz.underlying9
theorem zeroI (w : World) : (zeroValue 3).run Tryz.prog w = .ok (.int .i64 0) w := by kernel_rfl
def kS (s : ByteArray) : Lit := .string s.data.toList
theorem kS_ne {s t : ByteArray} (h : s ≠ t) : kS s ≠ kS t := fun e => h (by
  have h1 : s.data.toList = t.data.toList := by simpa [kS] using e
  obtain ⟨⟨a⟩⟩ := s
  obtain ⟨⟨b⟩⟩ := t
  simp at h1
  rw [h1])
def lI (x : Int) : DataW Unit := .lit (.int .i64 x)
def valTo (s : ByteArray) : Nat → Int
  | 0 => 0
  | j + 1 => if kindB (j : Int) = s then (j : Int) else valTo s j
def hasTo (s : ByteArray) : Nat → Bool
  | 0 => false
  | j + 1 => decide (kindB (j : Int) = s) || hasTo s j
/-- Block b holds the kinds of the first j words. -/
def KindMap (w : World) (b k j : Nat) : Prop :=
  ∃ D : DataW Unit, w.ownsMap Tryz.prog 9 (plainElem Tryz.prog 3) b k D ∧ (∀ s : ByteArray, D.atKey (kS s) (lI 0) = lI (valTo s j)) ∧ ∀ s : ByteArray, has D (kS s) = hasTo s j
theorem KindMap.new (w : World) : KindMap (w.alloc (.map #[] 0)) w.heap.size 0 0 :=
  ⟨.map [], World.ownsMap_made _ _ _ _, fun x => by simp [DataW.atKey, lI, valTo], fun x => by simp [has, hasTo]⟩
theorem KindMap.lt {w : World} {b k j : Nat} (h : KindMap w b k j) : b < w.heap.size := by obtain ⟨D, h, _⟩ := h; exact h.lt
theorem KindMap.below {w w' : World} {B b k j : Nat} (h : KindMap w b k j) (hb : Below B w w') (hl : b < B) : KindMap w' b k j := by
  obtain ⟨D, ⟨es, clock, hh, r1⟩, r⟩ := h; exact ⟨D, ⟨es, clock, (hb.block b hl).trans hh, r1⟩, r⟩

section
variable {w : World} {ops : Array Oper} {rest : List Oper} {o : Oper} {a : Act} {Q : Exit → Act → World → Prop} {b k j : Nat}
theorem KindMap.look (hg : o.guard = none) (m x : Operand) (hop : o.op = Op.lookup 133 m x true) (hm : a.eval m = .map (some b)) (h : KindMap w b k j) (s : ByteArray) (hx : a.eval x = .string s) (hs : s.size ≤ maxLen)
    (hK : wpList Tryz.prog ops Q rest (a.put o.dst (.tuple #[.int .i64 (valTo s j), .bool (hasTo s j)])) w) : wpList Tryz.prog ops Q (o :: rest) a w := by
  obtain ⟨D, h1, r1, r2⟩ := h
  refine wpList_lookup_own_ok_int w hg m x 133 hop 9 3 .i64 keyedStr Tryz.underlying133 Tryz.underlying3 (zeroI w) b k D hm h1 (.string s) (kS s) hx (WideMaps.keyOf_string_mk Tryz.underlying9 hs) ?_
  intro c hat hwc
  have e : lI (valTo s j) = lI c := (r1 s).symm.trans hat
  have e2 : valTo s j = c := by simpa [lI] using e
  rw [r2 s, ← e2]
  exact hK
theorem KindMap.more (hg : o.guard = none) (m x v : Operand) (hop : o.op = Op.mapUpdate 133 m x v) (hm : a.eval m = .map (some b)) (h : KindMap w b k j) (hk : k ≤ 100) (hj : j ≤ 100) (s : ByteArray) (hs : kindB (j : Int) = s) (z : Int) (hz : z = (j : Int)) (hx : a.eval x = .string s)
    (hv : a.eval v = .int .i64 z)
    (hK : ∀ w', KindMap w' b (k + 1) (j + 1) → w.grownBy w' (some b) → wpList Tryz.prog ops Q rest (a.put o.dst undef) w') : wpList Tryz.prog ops Q (o :: rest) a w := by
  subst hs hz
  obtain ⟨D, h1, r1, r2⟩ := h
  have hwf : (Lit.int .i64 (j : Int)).wf = true := by
    have h1 : IntKind.i64.min = -9223372036854775808 := rfl
    have h2 : IntKind.i64.max = 9223372036854775807 := rfl
    simp only [Lit.wf, Bool.and_eq_true, decide_eq_true_eq]
    omega
  refine wpList_mapUpdate_own w hg m x v 133 hop 9 3 keyedStr Tryz.underlying133 _ b k D hm h1 (by unfold maxLen; omega) (.string (kindB (j : Int))) _ (kS (kindB (j : Int))) hx hv (WideMaps.keyOf_string_mk Tryz.underlying9 (by rw [kindB_size]; decide)) (lI (j : Int)) [] (plainElem_int Tryz.underlying3 hwf) ?_
  intro w' h2 hgr
  refine hK w' ⟨_, h2, fun s => ?_, fun s => ?_⟩ hgr
  · by_cases e : kindB (j : Int) = s
    · subst e
      rw [atKey_put_same h1.isMap (by trivial), valTo, if_pos rfl]
    · rw [atKey_put_other (kS_ne (fun h => e h.symm)), r1 s, valTo, if_neg e]
  · by_cases e : kindB (j : Int) = s
    · subst e
      rw [has_put_same h1.isMap (by trivial), hasTo]; simp
    · rw [has_put_other (kS_ne (fun h => e h.symm)), r2 s, hasTo]; simp [e]
end

/-- An element of an array that is a value, as the machine runs it. -/
theorem wpIdx {w : World} {ops : Array Oper} {rest : List Oper} {o : Oper} {a : Act} {Q : Exit → Act → World → Prop} (hg : o.guard = none) (t : TypeId) (x y : Operand) (hop : o.op = Op.index t x y) (vx vy v : Value) (hx : a.eval x = vx) (hy : a.eval y = vy)
    (hrun : (Instr.index t vx vy).run Tryz.prog w = .ok v w) (hK : wpList Tryz.prog ops Q rest (a.put o.dst v) w) : wpList Tryz.prog ops Q (o :: rest) a w := by
  refine wpList_plain hg fun K' hK' => ?_
  unfold Oper.wp
  simp [execOp, hop, hx, hy, hrun, Result.andThen]
  exact hK' _ _ hK

set_option maxRecDepth 100000 in
set_option maxHeartbeats 4000000 in
theorem kindsByWord_any (w : World) (hW : Words w) :
    Calls Tryz.prog 117 #[] w fun e w' => ∃ b, e = .returned (.map (some b)) ∧ KindMap w' b 4 4 ∧ w.heap.size ≤ b ∧ Below w.heap.size w w' := by
  have b1 := belowNew w (.map #[] 0)
  have m1 := KindMap.new w
  obtain ⟨w1, hw1⟩ : ∃ W, W = w.alloc (.map #[] 0) := ⟨_, rfl⟩
  rw [← hw1] at b1 m1
  have hW1 := hW.below b1
  have c0 := hW1 0 (by omega)
  obtain ⟨s0, hs0⟩ : ∃ s, kindB ((0 : Nat) : Int) = s := ⟨_, rfl⟩
  rw [hs0] at c0
  have c1 := hW1 1 (by omega)
  obtain ⟨s1, hs1⟩ : ∃ s, kindB ((1 : Nat) : Int) = s := ⟨_, rfl⟩
  rw [hs1] at c1
  have c2 := hW1 2 (by omega)
  obtain ⟨s2, hs2⟩ : ∃ s, kindB ((2 : Nat) : Int) = s := ⟨_, rfl⟩
  rw [hs2] at c2
  have c3 := hW1 3 (by omega)
  obtain ⟨s3, hs3⟩ : ∃ s, kindB ((3 : Nat) : Int) = s := ⟨_, rfl⟩
  rw [hs3] at c3
  rw [hw1] at c0 c1 c2 c3
  have HS0 := Lib.hid hs0
  have HS1 := Lib.hid hs1
  have HS2 := Lib.hid hs2
  have HS3 := Lib.hid hs3
  clear hs0 hs1 hs2 hs3
  have hmm := @run_makeMap Tryz.prog
  have hx0 : ∀ W, (Instr.index 80 (.agg #[.string s0, .string s1, .string s2, .string s3]) (.int .i64 ((0 : Nat) : Int))).run Tryz.prog W = .ok (.string s0) W := fun W => rfl
  have hx1 : ∀ W, (Instr.index 80 (.agg #[.string s0, .string s1, .string s2, .string s3]) (.int .i64 ((1 : Nat) : Int))).run Tryz.prog W = .ok (.string s1) W := fun W => rfl
  have hx2 : ∀ W, (Instr.index 80 (.agg #[.string s0, .string s1, .string s2, .string s3]) (.int .i64 ((2 : Nat) : Int))).run Tryz.prog W = .ok (.string s2) W := fun W => rfl
  have hx3 : ∀ W, (Instr.index 80 (.agg #[.string s0, .string s1, .string s2, .string s3]) (.int .i64 ((3 : Nat) : Int))).run Tryz.prog W = .ok (.string s3) W := fun W => rfl
  have HM := Lib.hid m1
  have HB := Lib.hid b1
  clear hW hW1 m1 b1
  go_enter Tryz.func117, Tryz.ntmps117
  go_wp2_with fail
  rw [← hw1]
  clear hw1 c0 c1 c2 c3
  go_loopw [6] (fun i wr => ∃ (k : Nat), k ≤ 4 ∧ i = .int .i64 k ∧ KindMap wr w.heap.size k k ∧ Below w.heap.size w wr) (fun i _ => 4 - (intOf i).toNat)
  case atStart => exact ⟨0, by omega, rfl, HM.out, HB.out⟩
  case round =>
    obtain ⟨k, hk, rfl, hm, bk⟩ := hrel
    by_cases hlt : k < 4
    · rcases (by omega : k = 0 ∨ k = 1 ∨ k = 2 ∨ k = 3) with rfl | rfl | rfl | rfl
      · have hj : 0 < 4 := by omega
        go_wp2_with (first | (at_mapUpdate; refine KindMap.more rfl _ _ _ rfl rfl hm (by omega) (by omega) s0 HS0.out 0 (by rfl) rfl rfl ?_; intro w2 hm2 hg2) | (refine wpIdx rfl 80 (.tmp 5) (.tmp 6) rfl _ _ _ rfl rfl (hx0 _) ?_))
        go_roundw
        case rel => exact ⟨0 + 1, by omega, by go_num, hm2, bk.grown hg2 bk.size (fun g hg => by have := Option.some.inj hg; omega)⟩
        case measure => simp [intOf]
      · have hj : 1 < 4 := by omega
        go_wp2_with (first | (at_mapUpdate; refine KindMap.more rfl _ _ _ rfl rfl hm (by omega) (by omega) s1 HS1.out 1 (by rfl) rfl rfl ?_; intro w2 hm2 hg2) | (refine wpIdx rfl 80 (.tmp 5) (.tmp 6) rfl _ _ _ rfl rfl (hx1 _) ?_))
        go_roundw
        case rel => exact ⟨1 + 1, by omega, by go_num, hm2, bk.grown hg2 bk.size (fun g hg => by have := Option.some.inj hg; omega)⟩
        case measure => simp [intOf]
      · have hj : 2 < 4 := by omega
        go_wp2_with (first | (at_mapUpdate; refine KindMap.more rfl _ _ _ rfl rfl hm (by omega) (by omega) s2 HS2.out 2 (by rfl) rfl rfl ?_; intro w2 hm2 hg2) | (refine wpIdx rfl 80 (.tmp 5) (.tmp 6) rfl _ _ _ rfl rfl (hx2 _) ?_))
        go_roundw
        case rel => exact ⟨2 + 1, by omega, by go_num, hm2, bk.grown hg2 bk.size (fun g hg => by have := Option.some.inj hg; omega)⟩
        case measure => simp [intOf]
      · have hj : 3 < 4 := by omega
        go_wp2_with (first | (at_mapUpdate; refine KindMap.more rfl _ _ _ rfl rfl hm (by omega) (by omega) s3 HS3.out 3 (by rfl) rfl rfl ?_; intro w2 hm2 hg2) | (refine wpIdx rfl 80 (.tmp 5) (.tmp 6) rfl _ _ _ rfl rfl (hx3 _) ?_))
        go_roundw
        case rel => exact ⟨3 + 1, by omega, by go_num, hm2, bk.grown hg2 bk.size (fun g hg => by have := Option.some.inj hg; omega)⟩
        case measure => simp [intOf]
    · obtain rfl : k = 4 := by omega
      go_wp2_with fail
      go_ret
      exact ⟨_, rfl, hm, Nat.le_refl _, bk⟩

end Go.Proofs.YtibaiajanggbdaaGreatDoor
