/- From the row's condition on the listed tables to what the walks of chapter 5 ask of them. No condition beyond what each lemma names. -/
import Derived.Test.YtcbofogmfelpkaaDoorHand
import Derived.Test.YtcbofogmfelpkaaDoorLnI3
import Derived.Test.YtcbofogmfelpkaaDoorRows
namespace Go.Proofs.YtcbofogmfelpkaaDoor
open Go.ChangeShapes Go.WideShapes Go.ChangeAt Go.RowKit
set_option maxRecDepth 100000

theorem opsType : (Tryd.prog.globals[0]?).map (·.type) = some 98 := by kernel_rfl
theorem opsUnder : Tryd.prog.underlying 98 = some (.array 8 9) := by kernel_rfl
theorem opsCells : Tryd.prog.cellsOf 98 = 8 := by kernel_rfl
theorem cellsS1 : Tryd.prog.cellsOf 9 = 1 := by kernel_rfl
theorem cellsI1 : Tryd.prog.cellsOf 3 = 1 := by kernel_rfl
theorem formsType : (Tryd.prog.globals[1]?).map (·.type) = some 100 := by kernel_rfl
theorem formsCells : Tryd.prog.cellsOf 100 = 7 * 3 := by kernel_rfl
theorem formsUnder : Tryd.prog.underlying 100 = some (.array 7 99) := by kernel_rfl
theorem formCells : Tryd.prog.cellsOf 99 = 3 := by kernel_rfl

/-- The words of the operations as a row lists them. -/
def opsDatum {H : Type} : DataW H := .agg (([[43], [45], [42], [60], [61], [38], [124], [94]] : List (List UInt8)).map fun s => .lit (.string s))
def formRows : List (List UInt8 × Int × Int) := [([], 0, 0), ([105, 110, 112, 117, 116], 4, 0), ([99, 111, 110, 115, 116], 4, 0), ([108, 101, 116], 5, 2), ([110, 111, 116], 3, 1), ([112, 105, 99, 107], 5, 3), ([111, 117, 116], 2, 1)]
/-- The forms of lines as a row lists them. -/
def formsDatum {H : Type} : DataW H := .agg (formRows.map fun r => .agg [.lit (.string r.1), .lit (.int .i64 r.2.1), .lit (.int .i64 r.2.2)])

theorem ops_of_head {W : World} {n : String} {rest : List (String × DataW Unit)} (hn : Tryd.prog.globalNamed n = some 0) (h : laidMet Tryd.prog ((n, opsDatum) :: rest) W) : OpWords W := by
  obtain ⟨ps, ⟨g', t', cs, fuel, p, q, hg', ht', hvar, hd, _, _⟩, _⟩ := h
  obtain rfl := Option.some.inj (hn.symm.trans hg')
  obtain rfl := Option.some.inj (opsType.symm.trans ht')
  have e := strs_of_tab opsUnder Tryd.underlying9 cellsS1 opsCells hd
  intro k hk
  rw [World.var?_cell hn hvar k]
  have e2 : cs[k]? = cs.toList[k]? := by simp
  rw [e2, e]
  rcases (by omega : k = 0 ∨ k = 1 ∨ k = 2 ∨ k = 3 ∨ k = 4 ∨ k = 5 ∨ k = 6 ∨ k = 7) with h | h | h | h | h | h | h | h <;> subst h <;> rfl

theorem forms_of_head {W : World} {n : String} {rest : List (String × DataW Unit)} (hn : Tryd.prog.globalNamed n = some 1) (h : laidMet Tryd.prog ((n, formsDatum) :: rest) W) : Forms W := by
  obtain ⟨ps, ⟨g', t', cs, fuel, p, q, hg', ht', hvar, hd, _, _⟩, _⟩ := h
  obtain rfl := Option.some.inj (hn.symm.trans hg')
  obtain rfl := Option.some.inj (formsType.symm.trans ht')
  intro k hk
  obtain ⟨r, hr, c0, c1, c2⟩ := rows3_of_tab formsUnder Tryd.underlying99 formCells formsCells ⟨rfl, rfl⟩ ⟨rfl, rfl⟩ ⟨rfl, rfl⟩ Tryd.underlying9 Tryd.underlying3 cellsS1 cellsI1 hd k hk
  have e2 : ∀ i : Nat, cs[i]? = cs.toList[i]? := fun i => by simp
  rw [World.var?_cell hn hvar, World.var?_cell hn hvar, World.var?_cell hn hvar, e2, e2, e2, c0, c1, c2]
  rcases (by omega : k = 0 ∨ k = 1 ∨ k = 2 ∨ k = 3 ∨ k = 4 ∨ k = 5 ∨ k = 6) with h | h | h | h | h | h | h <;> subst h <;> (obtain rfl := Option.some.inj hr.symm) <;> exact ⟨rfl, rfl, rfl⟩

theorem laidLines {W : World} {a e : String × DataW Unit} {n m : String} (hn : Tryd.prog.globalNamed n = some 0) (hm : Tryd.prog.globalNamed m = some 1) (h : laidMet Tryd.prog [a, (n, opsDatum), (m, formsDatum), e] W) : Forms W ∧ OpWords W :=
  ⟨forms_of_head hm h.tail.tail, ops_of_head hn h.tail⟩

end Go.Proofs.YtcbofogmfelpkaaDoor
