/- From the row's condition on the listed tables to what the walks of chapter 4 ask of them, and the variable of the words read again. No condition beyond what each lemma names. -/
import Derived.Test.YtibaiajanggbdaaGreatDoorCirL6
import Derived.Test.YtibaiajanggbdaaGreatDoorRows
import Derived.Test.YtibaiajanggbdaaGreatDoorClose
import Derived.ChangeSame
import Derived.ChangeVars
import Derived.LaidLaws
import Derived.LaidMore
import Derived.LaidHandle
import Derived.Stop.Joined
import Derived.Stop.LaidErr
import Derived.Lib.LaidTab
import Derived.SevenTiedAt
namespace Go.Proofs.YtibaiajanggbdaaGreatDoor
open Go.ChangeShapes Go.WideShapes Go.ChangeAt Go.RowKit
set_option maxRecDepth 100000

/-- An array of strings that reads as these byte lists holds them, cell for cell. -/
theorem strs_of_tab {H : Type} {enc : TypeId × Value → H} {P : Program} {w : World} {base : Nat} {sp : Nat → Bool} {held : Bool} {fuel : Nat} {t e : TypeId} {n : Nat} {cs : List Value} {ss : List (List UInt8)} {p : List MemPlace}
    (ht : P.underlying t = some (.array n e)) (he : P.underlying e = some .string) (hce : P.cellsOf e = 1) (hct : P.cellsOf t = n)
    (h : DataW.trod enc P w base sp held fuel t cs = some (.agg (ss.map fun s => .lit (.string s)), p)) : cs = ss.map fun s => Value.string ⟨s.toArray⟩ := by
  cases fuel with
  | zero => simp [DataW.trod] at h
  | succ fuel =>
    simp only [DataW.trod, ht, hce, hct, Nat.mul_one] at h
    split at h
    · rename_i hl
      obtain ⟨xs, hm, hx⟩ := Option.map_eq_some_iff.1 h
      have hxs : xs.map (·.1) = ss.map fun s => (DataW.lit (.string s) : DataW H) := by
        have := congrArg Prod.fst hx
        simpa using this
      have hxl : xs.length = n := by simpa using Lib.mapM_length hm
      have hzl : ss.length = n := by
        have := congrArg List.length hxs
        simp at this
        omega
      apply List.ext_getElem?
      intro i
      by_cases hi : i < n
      · obtain ⟨b, hb, hf⟩ := Lib.mapM_at hm i i (by simp [hi])
        obtain ⟨s, hc, rfl, _⟩ := DataW.trod_string he hf
        have h1 : cs[i]? = some (.string s) := by
          have := congrArg (·[0]?) hc
          simpa [List.getElem?_take, List.getElem?_drop] using this
        have h2 : (xs.map (·.1))[i]? = some (DataW.lit (.string s.data.toList) : DataW H) := by simp [hb]
        rw [hxs] at h2
        simp only [List.getElem?_map, Option.map_eq_some_iff, DataW.lit.injEq, Lit.string.injEq] at h2
        obtain ⟨z', hz', rfl⟩ := h2
        simp [h1, hz']
      · rw [List.getElem?_eq_none (by omega), List.getElem?_eq_none (by simp; omega)]
    · cases h

theorem wordsType : (Tryz.prog.globals[0]?).map (·.type) = some 80 := by kernel_rfl
theorem wordsUnder : Tryz.prog.underlying 80 = some (.array 4 9) := by kernel_rfl
theorem wordsCells : Tryz.prog.cellsOf 80 = 4 := by kernel_rfl
theorem cellsStr : Tryz.prog.cellsOf 9 = 1 := by kernel_rfl
theorem tensType : (Tryz.prog.globals[4]?).map (·.type) = some 168 := by kernel_rfl
theorem tensUnder : Tryz.prog.underlying 168 = some (.array 20 59) := by kernel_rfl
theorem tensCells : Tryz.prog.cellsOf 168 = 20 := by kernel_rfl
theorem cellsU64 : Tryz.prog.cellsOf 59 = 1 := by kernel_rfl

/-- The words as a row lists them. -/
def wordsDatum {H : Type} : DataW H := .agg (([[120, 111, 114], [97, 110, 100], [110, 111, 116], [111, 110, 101]] : List (List UInt8)).map fun s => .lit (.string s))

theorem words_of_head {W : World} {n : String} {rest : List (String × DataW Unit)} (hn : Tryz.prog.globalNamed n = some 0) (h : laidMet Tryz.prog ((n, wordsDatum) :: rest) W) : Words W := by
  obtain ⟨ps, ⟨g', t', cs, fuel, p, q, hg', ht', hvar, hd, _, _⟩, _⟩ := h
  obtain rfl := Option.some.inj (hn.symm.trans hg')
  obtain rfl := Option.some.inj (wordsType.symm.trans ht')
  have e := strs_of_tab wordsUnder Tryz.underlying9 cellsStr wordsCells hd
  intro k hk
  rw [World.var?_cell hn hvar k]
  have e2 : cs[k]? = cs.toList[k]? := by simp
  rw [e2, e]
  rcases (by omega : k = 0 ∨ k = 1 ∨ k = 2 ∨ k = 3) with h | h | h | h <;> subst h <;> rfl

theorem tens_of_head {W : World} {rest : List (String × DataW Unit)} (hn : Tryz.prog.globalNamed "internal/strconv.uint64pow10" = some 4) (h : laidMet Tryz.prog (("internal/strconv.uint64pow10", Lib.tabData .u64 Lib.pow10Tab) :: rest) W) : Tens W :=
  Lib.tabIs_of_head hn tensType tensUnder Tryz.underlying59 cellsU64 tensCells h

theorem laid4 {W : World} {a b : String × DataW Unit} {n : String} (hn : Tryz.prog.globalNamed n = some 0) (ht : Tryz.prog.globalNamed "internal/strconv.uint64pow10" = some 4)
    (h : laidMet Tryz.prog [a, b, ("internal/strconv.uint64pow10", Lib.tabData .u64 Lib.pow10Tab), (n, wordsDatum)] W) : Words W ∧ Tens W :=
  ⟨words_of_head hn h.tail.tail.tail, tens_of_head ht h.tail.tail⟩

theorem wordsBelow {P : Program} {w w' : World} {n : String} {g B : Nat} {cs : Array Value} (h : w.var? P n = some cs) (hg : P.globalNamed n = some g) (hb : Below B w w') (hlt : g < B) : w'.var? P n = some cs := by
  unfold World.var? at h ⊢
  rw [hg] at h ⊢
  simp only [Option.bind_some] at h ⊢
  rw [hb.block g hlt]
  exact h

/-- The listed variable reads behind the call as it did before. -/
theorem wordsAgain {H : Type} {enc : TypeId × Value → H} {W : World} {n : String} {gs : List (DataW H)} {q : List MemPlace} (hT : Words W) (hn : Tryz.prog.globalNamed n = some 0)
    (hV : DataW.TrodVars enc Tryz.prog W (fun _ => true) [n] gs q) (hlt : ∀ x ∈ q, x.block < W.heap.size) :
    ∃ d, gs = [d] ∧ ∀ W', Below W.heap.size W W' → DataW.TrodVars enc Tryz.prog W' (fun b => decide (b < W.heap.size)) [n] gs q := by
  obtain ⟨g, t, cs, fuel, d, p, rfl, hg, ht, hvar, hd, rfl⟩ := trodVars_one hV
  obtain rfl := Option.some.inj (hn.symm.trans hg)
  obtain rfl := Option.some.inj (wordsType.symm.trans ht)
  have hgl : 0 < W.heap.size := World.block_lt_of_cell? W _ (hT 0 (by omega))
  refine ⟨d, rfl, fun W' hb => ?_⟩
  have h0 : DataW.Trod enc Tryz.prog W 0 (fun _ => true) true 80 (.agg cs) d p := ⟨fuel, hd⟩
  obtain ⟨fuel', h1⟩ := Below.trod laidOut (by kernel_rfl) (of_decide_eq_true (by kernel_rfl)) h0 hb (fun x hx => hlt x (List.mem_append_right _ hx))
  exact trodVars_mk1 hn wordsType (wordsBelow hvar hn hb hgl) h1

theorem noStandIn {P : Program} {fn : Func} (h : (fn.params.toList.all fun t => P.wantsStandIn t == false) = true) (j : Nat) (t : TypeId) (ht : fn.params[j]? = some t) : P.wantsStandIn t = false := by
  have hm : t ∈ fn.params.toList := by
    obtain ⟨hj, e⟩ := Array.getElem?_eq_some_iff.1 ht
    rw [← e]
    exact Array.getElem_mem_toList hj
  simpa using List.all_eq_true.1 h t hm

end Go.Proofs.YtibaiajanggbdaaGreatDoor
