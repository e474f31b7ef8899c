/- A map from wires to how often they are read: what it holds, and what its operations do. No condition beyond what each lemma names. -/
import Derived.Test.YteiibneaihdmbaaCirM8
import Derived.Test.YteiibneaihdmbaaGen1
import Derived.Maps.Own
import Derived.Maps.OwnOps
import Derived.Maps.OwnSet
import Derived.Lib.SlKeysI
namespace Go.Proofs.Yteiibneaihdmbaa
open Go.RowKit Go.Maps
set_option maxRecDepth 100000

theorem i64Wf {x : Int} (h : I64 x) : (Lit.int .i64 x).wf = true := by
  have h1 : IntKind.i64.min = -9223372036854775808 := rfl
  have h2 : IntKind.i64.max = 9223372036854775807 := rfl
  unfold I64 at h
  simp only [Lit.wf, Bool.and_eq_true, decide_eq_true_eq]
  omega
theorem keyedInt : Keyed Try.prog 3 := int_keyed Try.underlying3
theorem zeroInt (w : World) : (zeroValue 3).run Try.prog w = .ok (.int .i64 0) w := by kernel_rfl
def kI (x : Int) : Lit := .int .i64 x
theorem kI_ne {x y : Int} (h : x ≠ y) : kI x ≠ kI y := fun e => h (by simpa [kI] using e)
def vI (x : Int) : DataW Unit := .lit (.int .i64 x)

/-- Block b holds, for each number, how often it stands in the list. -/
def MapL (w : World) (b k : Nat) (L : List Int) : Prop :=
  ∃ D : DataW Unit, w.ownsMap Try.prog 3 (plainElem Try.prog 3) b k D ∧ (∀ x : Int, D.atKey (kI x) (vI 0) = vI (L.count x : Int)) ∧ ∀ x : Int, has D (kI x) = decide (x ∈ L)
/-- The same, but that the number y is a key in any case. -/
def MapM (w : World) (b k : Nat) (y : Int) (L : List Int) : Prop :=
  ∃ D : DataW Unit, w.ownsMap Try.prog 3 (plainElem Try.prog 3) b k D ∧ (∀ x : Int, D.atKey (kI x) (vI 0) = vI (L.count x : Int)) ∧ ∀ x : Int, x ≠ y → has D (kI x) = decide (x ∈ L)

theorem MapL.new (w : World) : MapL (w.alloc (.map #[] 0)) w.heap.size 0 [] :=
  ⟨.map [], World.ownsMap_made _ _ _ _, fun x => by simp [DataW.atKey, vI], fun x => by simp [has]⟩
theorem MapL.lt {w : World} {b k : Nat} {L : List Int} (h : MapL w b k L) : b < w.heap.size := by obtain ⟨D, h, _⟩ := h; exact h.lt
theorem MapL.kept {w w' : World} {row : Option Nat} {b k : Nat} {L : List Int} (h : MapL w b k L) (hg : w.grownBy w' row) (hne : some b ≠ row) : MapL w' b k L := by
  obtain ⟨D, h, r⟩ := h; exact ⟨D, h.kept hg hne, r⟩
theorem MapL.below {w w' : World} {B b k : Nat} {L : List Int} (h : MapL w b k L) (hb : Below B w w') (hl : b < B) : MapL w' b k L := by
  obtain ⟨D, ⟨es, clock, hh, r1⟩, r⟩ := h; exact ⟨D, ⟨es, clock, (hb.block b hl).trans hh, r1⟩, r⟩
theorem MapL.mono {w : World} {b k k' : Nat} {L : List Int} (h : MapL w b k L) (hk : k ≤ k') : MapL w b k' L := by
  obtain ⟨D, h, r⟩ := h; exact ⟨D, h.mono hk, r⟩
theorem MapL.perm {w : World} {b k : Nat} {L L' : List Int} (h : MapL w b k L) (hp : L.Perm L') : MapL w b k L' := by
  obtain ⟨D, h, r1, r2⟩ := h
  exact ⟨D, h, fun x => by rw [r1 x, hp.count_eq x], fun x => by rw [r2 x]; exact decide_eq_decide.2 hp.mem_iff⟩
theorem hasOfAt {D : DataW Unit} {y : Int} {c : Int} (h : D.atKey (kI y) (vI 0) = vI c) (hc : c ≠ 0) : has D (kI y) = true := by
  cases e : has D (kI y) with
  | true => rfl
  | false =>
    exfalso
    apply hc
    cases D with
    | map es =>
      have hn : es.find? (fun p => p.1.sameKey (kI y)) = none := by
        rw [List.find?_eq_none]
        intro p hp hs
        rw [has_eq] at e
        have := List.any_eq_false.1 e p hp
        exact this hs
      have h3 : vI 0 = vI c := by
        rw [← h]
        simp only [DataW.atKey, hn]
      simp [vI] at h3
      exact h3.symm
    | _ =>
      have h3 : vI 0 = vI c := h
      simp [vI] at h3
      exact h3.symm
theorem MapM.toL {w : World} {b k : Nat} {y : Int} {L : List Int} (h : MapM w b k y L) (hy : L.count y ≠ 0) : MapL w b k L := by
  obtain ⟨D, h1, r1, r2⟩ := h
  refine ⟨D, h1, r1, fun x => ?_⟩
  by_cases e : x = y
  · subst e; rw [hasOfAt (r1 x) (by omega)]; symm; exact decide_eq_true (List.count_pos_iff.1 (by omega))
  · exact r2 x e

section
variable {w : World} {ops : Array Oper} {rest : List Oper} {o : Oper} {a : Act} {Q : Exit → Act → World → Prop} {b k : Nat} {L : List Int}
theorem MapL.wpLook (hg : o.guard = none) (m x : Operand) (hop : o.op = Op.lookup 142 m x false) (hm : a.eval m = .map (some b)) (h : MapL w b k L) (y : Int) (hx : a.eval x = .int .i64 y) (hy : I64 y)
    (hK : wpList Try.prog ops Q rest (a.put o.dst (.int .i64 (L.count y : Int))) w) : wpList Try.prog ops Q (o :: rest) a w := by
  obtain ⟨D, h1, r1, r2⟩ := h
  refine wpList_lookup_own_int w hg m x 142 hop 3 3 .i64 keyedInt Try.underlying142 Try.underlying3 (zeroInt w) b k D hm h1 (.int .i64 y) (kI y) hx (keyOf_int_mk Try.underlying3 (i64Wf hy)) ?_
  intro c hat hwc
  have e : vI (L.count y : Int) = vI c := (r1 y).symm.trans hat
  have e2 : (L.count y : Int) = c := by simpa [vI] using e
  rw [← e2]; exact hK
theorem MapM.wpLook {z : Int} (hg : o.guard = none) (m x : Operand) (hop : o.op = Op.lookup 142 m x false) (hm : a.eval m = .map (some b)) (h : MapM w b k z L) (y : Int) (hx : a.eval x = .int .i64 y) (hy : I64 y)
    (hK : wpList Try.prog ops Q rest (a.put o.dst (.int .i64 (L.count y : Int))) w) : wpList Try.prog ops Q (o :: rest) a w := by
  obtain ⟨D, h1, r1, r2⟩ := h
  refine wpList_lookup_own_int w hg m x 142 hop 3 3 .i64 keyedInt Try.underlying142 Try.underlying3 (zeroInt w) b k D hm h1 (.int .i64 y) (kI y) hx (keyOf_int_mk Try.underlying3 (i64Wf hy)) ?_
  intro c hat hwc
  have e : vI (L.count y : Int) = vI c := (r1 y).symm.trans hat
  have e2 : (L.count y : Int) = c := by simpa [vI] using e
  rw [← e2]; exact hK
/-- 'm[y]++'. -/
theorem MapL.wpMore (hg : o.guard = none) (m x v : Operand) (hop : o.op = Op.mapUpdate 142 m x v) (hm : a.eval m = .map (some b)) (h : MapL w b k L) (hk : k ≤ 16777216) (hL : L.length ≤ 16777216) (y : Int) (hx : a.eval x = .int .i64 y) (hy : I64 y)
    (hv : a.eval v = .int .i64 ((L.count y : Int) + 1))
    (hK : ∀ w', MapL w' b (k + 1) (y :: L) → w.grownBy w' (some b) → wpList Try.prog ops Q rest (a.put o.dst undef) w') : wpList Try.prog ops Q (o :: rest) a w := by
  obtain ⟨D, h1, r1, r2⟩ := h
  have hc : L.count y ≤ L.length := List.count_le_length
  refine wpList_mapUpdate_own w hg m x v 142 hop 3 3 keyedInt Try.underlying142 _ b k D hm h1 (by unfold maxLen; omega) (.int .i64 y) _ (kI y) hx hv (keyOf_int_mk Try.underlying3 (i64Wf hy)) (vI ((L.count y : Int) + 1)) [] (plainElem_int Try.underlying3 (i64Wf ⟨by omega, by omega⟩)) ?_
  intro w' h2 hgr
  refine hK w' ⟨_, h2, fun z => ?_, fun z => ?_⟩ hgr
  · by_cases e : z = y
    · subst e
      rw [atKey_put_same h1.isMap (by trivial), List.count_cons_self]
      push_cast; rfl
    · rw [atKey_put_other (kI_ne e), r1 z, List.count_cons_of_ne (fun h => e h.symm)]
  · by_cases e : z = y
    · subst e
      rw [has_put_same h1.isMap (by trivial)]; symm; exact decide_eq_true (List.mem_cons_self ..)
    · rw [has_put_other (kI_ne e), r2 z]
      exact decide_eq_decide.2 ⟨fun h => List.mem_cons_of_mem _ h, fun h => by rcases List.mem_cons.1 h with h | h; exact absurd h e; exact h⟩
/-- 'm[y]--'. -/
theorem MapL.wpLess {L' : List Int} (hg : o.guard = none) (m x v : Operand) (hop : o.op = Op.mapUpdate 142 m x v) (hm : a.eval m = .map (some b)) (y : Int) (h : MapL w b k (y :: L')) (hk : k ≤ 16777216) (hL : L'.length ≤ 16777216) (hx : a.eval x = .int .i64 y) (hy : I64 y)
    (hv : a.eval v = .int .i64 (L'.count y : Int))
    (hK : ∀ w', MapM w' b (k + 1) y L' → w.grownBy w' (some b) → wpList Try.prog ops Q rest (a.put o.dst undef) w') : wpList Try.prog ops Q (o :: rest) a w := by
  obtain ⟨D, h1, r1, r2⟩ := h
  have hc : L'.count y ≤ L'.length := List.count_le_length
  refine wpList_mapUpdate_own w hg m x v 142 hop 3 3 keyedInt Try.underlying142 _ b k D hm h1 (by unfold maxLen; omega) (.int .i64 y) _ (kI y) hx hv (keyOf_int_mk Try.underlying3 (i64Wf hy)) (vI (L'.count y : Int)) [] (plainElem_int Try.underlying3 (i64Wf ⟨by omega, by omega⟩)) ?_
  intro w' h2 hgr
  refine hK w' ⟨_, h2, fun z => ?_, fun z e => ?_⟩ hgr
  · by_cases e : z = y
    · subst e
      rw [atKey_put_same h1.isMap (by trivial)]
    · rw [atKey_put_other (kI_ne e), r1 z, List.count_cons_of_ne (fun h => e h.symm)]
  · rw [has_put_other (kI_ne e), r2 z]
    exact decide_eq_decide.2 ⟨fun h => by rcases List.mem_cons.1 h with h | h; exact absurd h e; exact h, fun h => List.mem_cons_of_mem _ h⟩
/-- 'delete(m, y)'. -/
theorem MapM.wpDrop (hg : o.guard = none) (m x : Operand) (hop : o.op = Op.call { callee := Callee.builtin Builtin.delete, args := #[m, x], argTypes := #[142, 3] }) (hm : a.eval m = .map (some b)) (y : Int) (h : MapM w b k y L) (h0 : L.count y = 0) (hx : a.eval x = .int .i64 y) (hy : I64 y)
    (hK : ∀ w', MapL w' b k L → w.grownBy w' (some b) → wpList Try.prog ops Q rest (a.put o.dst (.tuple #[])) w') : wpList Try.prog ops Q (o :: rest) a w := by
  obtain ⟨D, h1, r1, r2⟩ := h
  refine wpList_delete_own w hg m x 142 3 hop 3 keyedInt Try.underlying142 _ b k D hm h1 (.int .i64 y) (kI y) hx (keyOf_int_mk Try.underlying3 (i64Wf hy)) ?_
  intro w' h2 ht
  refine hK w' ⟨_, h2, fun z => ?_, fun z => ?_⟩ ht.grown
  · by_cases e : z = y
    · subst e
      rw [atKey_del_same, h0]; rfl
    · rw [atKey_del_other (kI_ne e), r1 z]
  · by_cases e : z = y
    · subst e
      rw [has_del_same]; symm; exact decide_eq_false (List.count_eq_zero.1 h0)
    · rw [has_del_other (kI_ne e), r2 z e]
end
end Go.Proofs.Yteiibneaihdmbaa
