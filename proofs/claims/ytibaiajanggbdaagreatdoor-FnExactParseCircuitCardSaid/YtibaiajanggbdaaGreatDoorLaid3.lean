/- From the row's condition on the listed tables, and from the world's shape, to what the walks ask of the library's own variables. No condition beyond what each lemma names. -/
import Derived.Test.YtibaiajanggbdaaGreatDoorLaid2
import Derived.Test.YtibaiajanggbdaaGreatDoorCirK3
import Derived.HandedShaped
import Derived.Shelf.Vars
namespace Go
/-- The wrap of a tied row that keeps both what it lists and the world's shape. -/
theorem handedShaped {H : Type} {enc : TypeId × Value → H} {a : Assume} {C : Checked} {os : Os} {f : FuncId} {fn : Func} {s : ChangeSpec} {conds : List PathCond} {apart fresh handsOn again : Bool} {X : World → Array Value → Prop}
    (keep : ∀ (w w' : World) (args : Array Value), w.heap = w'.heap → X w args → X w' args)
    (own : ownKnob C.prog.godebug = none) (started : os.Started) (noInit : C.prog.inits.idxOf? f = none) (hfn : C.prog.funcs[f]? = some fn)
    (witness : ∃ (w : World) (tape : Tape) (i : Input), w.os = os ∧ (w.forCall tape i).Shaped C.prog ∧ i.vars = [] ∧ Input.okWide C.prog (w.forCall tape i) .any w.heap.size f i ∧
      ((s.pre enc C.prog fn conds apart (w.forCall tape i).memory i.args ∧ X (w.forCall tape i).memory i.args) ∧ sizedMet enc C.prog fn (OpenSpec.ofChange s) apart (w.forCall tape i).memory i.args) ∧ a.holds C.prog (lone (Frame.enter C.prog f i.args .normal) [] (w.forCall tape i)))
    (contract : ∀ (W : World) (base : Nat) (args : Array Value) (ds gs : List (DataW H)) (before : List MemPlace),
      (∀ (j : Nat) t v, fn.params[j]? = some t → args[j]? = some v → Value.okWide C.prog W .any base t v) →
      DataW.Whole enc C.prog fn.params.toList s.vars apart W args.toList ds gs before → X W args → W.ShapedOpen C.prog →
      Calls C.prog f args W fun e W' => ∃ v, e = .returned v ∧ s.post enc C.prog fn apart fresh handsOn again W args v W') :
    ReturnsInHanded a C os f .any (fun w args => (s.pre enc C.prog fn conds apart w args ∧ X w args) ∧ sizedMet enc C.prog fn (OpenSpec.ofChange s) apart w args) (s.post enc C.prog fn apart fresh handsOn again) :=
  returnsInHanded_of_calls own started noInit witness fun w tape i _ shape _ okay given _ => by
    obtain ⟨_, _, _, g, hg, _, _, _, _, vals⟩ := okay
    obtain rfl : g = fn := Option.some.inj (hg.symm.trans hfn)
    obtain ⟨⟨⟨ds, gs, before, whole, _⟩, met⟩, _⟩ := given
    refine (contract (w.forCall tape i) w.heap.size i.args ds gs before vals (DataW.Whole.of_heap (w' := w.forCall tape i) (by rfl) whole) (keep _ _ _ (by rfl) met) shape).mono fun e W' h => ?_
    obtain ⟨v, rfl, hp⟩ := h
    exact ChangeSpec.post_blind hp
end Go
namespace Go.Proofs.YtibaiajanggbdaaGreatDoor
open Go Go.ChangeShapes Go.WideShapes Go.ChangeAt Go.RowKit
set_option maxRecDepth 100000

theorem errWord : "*" ++ "errors.errorString" = "*errors.errorString" := by decide
theorem errRow (u : TypeId) (h : Tryz.prog.typeName? 3 u = some "*errors.errorString") : u = 179 :=
  typeName_ptr_named (nm := "errors.errorString") (by rw [errWord]; kernel_rfl) (by kernel_rfl) (by decide) u (by rw [errWord]; exact h)
theorem errCells : Tryz.prog.cellsOf 181 = 1 := by kernel_rfl
/-- An error of the library's as a row lists it. -/
def errDatum (text : List UInt8) : DataW Unit := .iface "*errors.errorString" (.ptr (.agg [.lit (.string text)]))

theorem maxLen_open {W : World} (hsh : W.ShapedOpen Tryz.prog) : ∃ m : Int, W.cell? ⟨1, 0, none⟩ = some (.int .i64 m) :=
  Go.Proofs.cell_of_shapedOpen_int (zero := #[.int .i64 0]) (t := 3) hsh (by decide +kernel) (by kernel_rfl) rfl (by kernel_rfl) (by kernel_rfl) Tryz.underlying3

theorem reads_open {W : World} {a b c e : String × DataW Unit} {n : String} {t1 t2 : List UInt8} (hn : Tryz.prog.globalNamed n = some 0) (ht : Tryz.prog.globalNamed "internal/strconv.uint64pow10" = some 4)
    (h1 : Tryz.prog.globalNamed "strconv.ErrRange" = some 6) (h2 : Tryz.prog.globalNamed "strconv.ErrSyntax" = some 5)
    (hsh : W.ShapedOpen Tryz.prog)
    (h : laidMet Tryz.prog [a, b, ("internal/strconv.uint64pow10", Lib.tabData .u64 Lib.pow10Tab), c, ("strconv.ErrRange", errDatum t1), ("strconv.ErrSyntax", errDatum t2), (n, wordsDatum), e] W) : Words W ∧ Tens W ∧ Reads W := by
  refine ⟨words_of_head hn h.tail.tail.tail.tail.tail.tail, tens_of_head ht h.tail.tail, maxLen_open hsh, ?_, ?_⟩
  · obtain ⟨a1, s1, hv, _, _, _⟩ := laid_sentinel h.tail.tail.tail.tail.tail h2 (ti := 125) (by kernel_rfl) Tryz.underlying125 errRow Tryz.underlying179 Tryz.underlying181 rfl rfl Tryz.underlying9 errCells cellsStr
    exact ⟨_, by simpa using World.var?_cell h2 hv 0, .inr ⟨_, _, rfl⟩⟩
  · obtain ⟨a1, s1, hv, _, _, _⟩ := laid_sentinel h.tail.tail.tail.tail h1 (ti := 125) (by kernel_rfl) Tryz.underlying125 errRow Tryz.underlying179 Tryz.underlying181 rfl rfl Tryz.underlying9 errCells cellsStr
    exact ⟨_, by simpa using World.var?_cell h1 hv 0, .inr ⟨_, _, rfl⟩⟩

end Go.Proofs.YtibaiajanggbdaaGreatDoor
