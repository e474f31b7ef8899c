/- Maps from names to bools and to numbers, as the program keeps them: what is found, what is put. No condition beyond what each lemma names. -/
import Derived.Test.YtcbofogmfelpkaaDoorLnI7
import Derived.Maps.Own
import Derived.Maps.OwnOps
import Derived.Maps.OwnSet
import Derived.StringKeys
namespace Go.Proofs.YtcbofogmfelpkaaDoor
open Go Go.RowKit Go.Maps
set_option maxRecDepth 100000

theorem keyedStr : Keyed Tryd.prog 9 := string_keyed Tryd.underlying9
theorem zeroIL (w : World) : (zeroValue 3).run Tryd.prog w = .ok (.int .i64 0) w := by kernel_rfl
theorem zeroBL (w : World) : (zeroValue 4).run Tryd.prog w = .ok (.bool false) w := by kernel_rfl
def kS (s : ByteArray) : Lit := .string s.data.toList
theorem kS_ne {s t : ByteArray} (h : s ≠ t) : kS s ≠ kS t := fun e => h (by
  have h1 : s.data.toList = t.data.toList := by simpa [kS] using e
  obtain ⟨⟨a⟩⟩ := s
  obtain ⟨⟨b⟩⟩ := t
  simp at h1
  rw [h1])
def lI (x : Int) : DataW Unit := .lit (.int .i64 x)
def lB (x : Bool) : DataW Unit := .lit (.bool x)
/-- Block b is a map of at most k entries; f says which names it has (those that it lacks read as false). -/
def SetS (w : World) (b k : Nat) (f : ByteArray → Bool) : Prop :=
  ∃ D : DataW Unit, w.ownsMap Tryd.prog 9 (plainElem Tryd.prog 4) b k D ∧ ∀ s : ByteArray, D.atKey (kS s) (lB false) = lB (f s)
/-- Block b is a map of at most k entries; g is the number that it has with each name (0 with those that it lacks). -/
def NumS (w : World) (b k : Nat) (g : ByteArray → Int) : Prop :=
  ∃ D : DataW Unit, w.ownsMap Tryd.prog 9 (plainElem Tryd.prog 3) b k D ∧ ∀ s : ByteArray, D.atKey (kS s) (lI 0) = lI (g s)
theorem SetS.new (w : World) : SetS (w.alloc (.map #[] 0)) w.heap.size 0 (fun _ => false) := ⟨.map [], World.ownsMap_made _ _ _ _, fun x => by simp [DataW.atKey, lB]⟩
theorem NumS.new (w : World) : NumS (w.alloc (.map #[] 0)) w.heap.size 0 (fun _ => 0) := ⟨.map [], World.ownsMap_made _ _ _ _, fun x => by simp [DataW.atKey, lI]⟩
theorem SetS.lt {w : World} {b k : Nat} {f : ByteArray → Bool} (h : SetS w b k f) : b < w.heap.size := by obtain ⟨D, h, _⟩ := h; exact h.lt
theorem NumS.lt {w : World} {b k : Nat} {g : ByteArray → Int} (h : NumS w b k g) : b < w.heap.size := by obtain ⟨D, h, _⟩ := h; exact h.lt
theorem SetS.below {w w' : World} {B b k : Nat} {f : ByteArray → Bool} (h : SetS w b k f) (hb : Below B w w') (hl : b < B) : SetS w' b k f := by
  obtain ⟨D, ⟨es, clock, hh, r1⟩, r⟩ := h; exact ⟨D, ⟨es, clock, (hb.block b hl).trans hh, r1⟩, r⟩
theorem NumS.below {w w' : World} {B b k : Nat} {g : ByteArray → Int} (h : NumS w b k g) (hb : Below B w w') (hl : b < B) : NumS w' b k g := by
  obtain ⟨D, ⟨es, clock, hh, r1⟩, r⟩ := h; exact ⟨D, ⟨es, clock, (hb.block b hl).trans hh, r1⟩, r⟩

section
variable {w : World} {ops : Array Oper} {rest : List Oper} {o : Oper} {a : Act} {Q : Exit → Act → World → Prop} {b k : Nat}
theorem SetS.look {f : ByteArray → Bool} (hg : o.guard = none) (m x : Operand) (hop : o.op = Op.lookup 78 m x false) (hm : a.eval m = .map (some b)) (h : SetS w b k f) (s : ByteArray) (hx : a.eval x = .string s) (hs : s.size ≤ maxLen)
    (hK : wpList Tryd.prog ops Q rest (a.put o.dst (.bool (f s))) w) : wpList Tryd.prog ops Q (o :: rest) a w := by
  obtain ⟨D, h1, r1⟩ := h
  obtain ⟨v, ps, hrun, hv⟩ := World.ownsMap.lookup h1 keyedStr Tryd.underlying78 (zeroBL w) (plainElem_bool Tryd.underlying4 false) (WideMaps.keyOf_string_mk Tryd.underlying9 hs)
  have e : v = .bool (f s) := by
    have hv2 : plainElem Tryd.prog 4 v = some (lB (f s), ps) := by rw [hv]; exact congrArg (fun q => some (q, ps)) (r1 s)
    unfold plainElem at hv2
    rw [Tryd.underlying4] at hv2
    cases v <;> simp [lB] at hv2
    rw [hv2.1]
  refine wpList_plain hg fun K' hK' => ?_
  unfold Oper.wp
  simp [execOp, hop, hm, hx, hrun, Result.andThen]
  rw [e]
  exact hK' _ _ hK
theorem SetS.put {f : ByteArray → Bool} (hg : o.guard = none) (m x v : Operand) (hop : o.op = Op.mapUpdate 78 m x v) (hm : a.eval m = .map (some b)) (h : SetS w b k f) (hk : k ≤ 16777216) (s : ByteArray) (hs : s.size ≤ maxLen) (hx : a.eval x = .string s)
    (hv : a.eval v = .bool true)
    (hK : ∀ w', SetS w' b (k + 1) (fun t => if s = t then true else f t) → w.grownBy w' (some b) → wpList Tryd.prog ops Q rest (a.put o.dst undef) w') : wpList Tryd.prog ops Q (o :: rest) a w := by
  obtain ⟨D, h1, r1⟩ := h
  refine wpList_mapUpdate_own w hg m x v 78 hop 9 4 keyedStr Tryd.underlying78 _ b k D hm h1 (by unfold maxLen; omega) (.string s) _ (kS s) hx hv (WideMaps.keyOf_string_mk Tryd.underlying9 hs) (lB true) [] (plainElem_bool Tryd.underlying4 true) ?_
  intro w' h2 hgr
  refine hK w' ⟨_, h2, fun t => ?_⟩ hgr
  by_cases e : s = t
  · subst e
    rw [atKey_put_same h1.isMap (by trivial)]
    simp
  · rw [atKey_put_other (kS_ne (fun h => e h.symm)), r1 t]
    simp [e]
theorem NumS.look {g : ByteArray → Int} (hg : o.guard = none) (m x : Operand) (hop : o.op = Op.lookup 103 m x false) (hm : a.eval m = .map (some b)) (h : NumS w b k g) (s : ByteArray) (hx : a.eval x = .string s) (hs : s.size ≤ maxLen)
    (hK : wpList Tryd.prog ops Q rest (a.put o.dst (.int .i64 (g s))) w) : wpList Tryd.prog ops Q (o :: rest) a w := by
  obtain ⟨D, h1, r1⟩ := h
  refine wpList_lookup_own_int w hg m x 103 hop 9 3 .i64 keyedStr Tryd.underlying103 Tryd.underlying3 (zeroIL w) b k D hm h1 (.string s) (kS s) hx (WideMaps.keyOf_string_mk Tryd.underlying9 hs) ?_
  intro c hat hwc
  have e : lI (g s) = lI c := (r1 s).symm.trans hat
  have e2 : g s = c := by simpa [lI] using e
  rw [← e2]
  exact hK
theorem NumS.put {g : ByteArray → Int} (hg : o.guard = none) (m x v : Operand) (hop : o.op = Op.mapUpdate 103 m x v) (hm : a.eval m = .map (some b)) (h : NumS w b k g) (hk : k ≤ 16777216) (s : ByteArray) (hs : s.size ≤ maxLen) (hx : a.eval x = .string s)
    (j : Nat) (hj : j ≤ 16777216) (hv : a.eval v = .int .i64 (j : Int))
    (hK : ∀ w', NumS w' b (k + 1) (fun t => if s = t then (j : Int) else g t) → w.grownBy w' (some b) → wpList Tryd.prog ops Q rest (a.put o.dst undef) w') : wpList Tryd.prog ops Q (o :: rest) a w := by
  obtain ⟨D, h1, r1⟩ := h
  have hwf : (Lit.int .i64 (j : Int)).wf = true := by
    have h1 : IntKind.i64.min = -9223372036854775808 := rfl
    have h2 : IntKind.i64.max = 9223372036854775807 := rfl
    simp only [Lit.wf, Bool.and_eq_true, decide_eq_true_eq]
    omega
  refine wpList_mapUpdate_own w hg m x v 103 hop 9 3 keyedStr Tryd.underlying103 _ b k D hm h1 (by unfold maxLen; omega) (.string s) _ (kS s) hx hv (WideMaps.keyOf_string_mk Tryd.underlying9 hs) (lI (j : Int)) [] (plainElem_int Tryd.underlying3 hwf) ?_
  intro w' h2 hgr
  refine hK w' ⟨_, h2, fun t => ?_⟩ hgr
  by_cases e : s = t
  · subst e
    rw [atKey_put_same h1.isMap (by trivial)]
    simp
  · rw [atKey_put_other (kS_ne (fun h => e h.symm)), r1 t]
    simp [e]
end

end Go.Proofs.YtcbofogmfelpkaaDoor
