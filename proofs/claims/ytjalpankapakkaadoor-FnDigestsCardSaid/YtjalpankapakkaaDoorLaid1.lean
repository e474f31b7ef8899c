/- From the row's condition on the listed table to what the walks ask of it, and what the closing of a tied row wants: a world that meets the condition, the variable read again, no stand-ins. No condition beyond what each lemma names. -/
import Derived.Test.YtjalpankapakkaaDoorDg4
import Derived.Test.YtjalpankapakkaaDoorClose
import Derived.ChangeSame
import Derived.ChangeVars
import Derived.LaidLaws
import Derived.LaidMore
import Derived.LaidHandle
import Derived.Stop.Joined
import Derived.Lib.LaidTab
import Derived.SevenTiedAt
namespace Go.Proofs.YtjalpankapakkaaDoor
open Go.ChangeShapes Go.WideShapes Go.ChangeAt Go.RowKit

def firsts : List Int := [40503, 40504, 40505, 40506, 40507, 40508, 40509, 40510, 40511, 40512, 40513, 40514, 40515]
theorem firsts_at (k : Nat) (hk : k < 13) : firsts.getD k 0 = 40503 + (k : Int) := by
  rcases (by omega : k = 0 ∨ k = 1 ∨ k = 2 ∨ k = 3 ∨ k = 4 ∨ k = 5 ∨ k = 6 ∨ k = 7 ∨ k = 8 ∨ k = 9 ∨ k = 10 ∨ k = 11 ∨ k = 12) with h | h | h | h | h | h | h | h | h | h | h | h | h <;> subst h <;> rfl

theorem varType : (Tryd.prog.globals[0]?).map (·.type) = some 67 := by kernel_rfl
theorem tabUnder : Tryd.prog.underlying 67 = some (.array 13 3) := by kernel_rfl
theorem tabCells : Tryd.prog.cellsOf 67 = 13 := by kernel_rfl

/-- The table as a row lists it. -/
def tabDatum {H : Type} : DataW H := Lib.tabData .i64 firsts

theorem starts_of_laid {W : World} {n : String} (hn : Tryd.prog.globalNamed n = some 0) (h : laidMetH Tryd.prog [(n, tabDatum)] W) : Starts W := by
  have h : laidMet Tryd.prog [(n, tabDatum)] W := h
  have hT := Lib.tabIs_of_head hn varType tabUnder Tryd.underlying3 cellsInt tabCells h
  intro k hk
  rw [hT.cell hn k hk, firsts_at k hk]

theorem varBelow {P : Program} {w w' : World} {n : String} {g B : Nat} {cs : Array Value} (h : w.var? P n = some cs) (hg : P.globalNamed n = some g) (hb : Below B w w') (hlt : g < B) : w'.var? P n = some cs := by
  unfold World.var? at h ⊢
  rw [hg] at h ⊢
  simp only [Option.bind_some] at h ⊢
  rw [hb.block g hlt]
  exact h

/-- The listed variable reads behind the call as it did before. -/
theorem varAgain {H : Type} {enc : TypeId × Value → H} {W : World} {n : String} {gs : List (DataW H)} {q : List MemPlace} (hT : Starts W) (hn : Tryd.prog.globalNamed n = some 0)
    (hV : DataW.TrodVars enc Tryd.prog W (fun _ => true) [n] gs q) (hlt : ∀ x ∈ q, x.block < W.heap.size) :
    ∃ d, gs = [d] ∧ ∀ W', Below W.heap.size W W' → DataW.TrodVars enc Tryd.prog W' (fun b => decide (b < W.heap.size)) [n] gs q := by
  obtain ⟨g, t, cs, fuel, d, p, rfl, hg, ht, hvar, hd, rfl⟩ := trodVars_one hV
  obtain rfl := Option.some.inj (hn.symm.trans hg)
  obtain rfl := Option.some.inj (varType.symm.trans ht)
  have hgl : 0 < W.heap.size := World.block_lt_of_cell? W _ (hT 0 (by omega))
  refine ⟨d, rfl, fun W' hb => ?_⟩
  have h0 : DataW.Trod enc Tryd.prog W 0 (fun _ => true) true 67 (.agg cs) d p := ⟨fuel, hd⟩
  obtain ⟨fuel', h1⟩ := Below.trod laidOut (by kernel_rfl) (of_decide_eq_true (by kernel_rfl)) h0 hb (fun x hx => hlt x (List.mem_append_right _ hx))
  exact trodVars_mk1 hn varType (varBelow hvar hn hb hgl) h1

theorem noStandIns {P : Program} {fn : Func} (h : (fn.params.toList.all fun t => P.wantsStandIn t == false) = true) (j : Nat) (t : TypeId) (ht : fn.params[j]? = some t) : P.wantsStandIn t = false := by
  have hm : t ∈ fn.params.toList := by
    obtain ⟨hj, e⟩ := Array.getElem?_eq_some_iff.1 ht
    rw [← e]
    exact Array.getElem_mem_toList hj
  simpa using List.all_eq_true.1 h t hm

end Go.Proofs.YtjalpankapakkaaDoor
