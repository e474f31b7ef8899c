/- How a law's statement is closed once its walk is known: the law returned true, and of what was in memory before the call nothing has turned. -/
import Derived.Test.YteiibneaihdmbaaBase
namespace Go.Proofs.Yteiibneaihdmbaa
open Go.ChangeShapes Go.WideShapes Go.ChangeAt Go.RowKit
set_option maxRecDepth 100000

/-- The end of a law: its results are read, its arguments read as before, old memory is as it was. -/
theorem lawPost {H : Type} {enc : TypeId × Value → H} {P : Program} {f : Func} {s : ChangeSpec} {apart fresh handsOn : Bool} {W W' : World} {args : Array Value} {v : Value} {ds gs : List (DataW H)} {before pa pv : List MemPlace}
    (hW : DataW.Whole enc P f.params.toList s.vars apart W args.toList ds gs before)
    (hres : ∀ (b : Nat) (sp : Nat → Bool) (hd : Bool), DataW.TrodAll enc P W' b sp hd f.resultTypes.toList (v.resultList f.resultTypes.size) (s.fn H (ds ++ gs)).results [])
    (hargs : DataW.TrodAll enc P W' 0 (fun b => decide (b < W.heap.size)) true f.params.toList args.toList (s.fn H (ds ++ gs)).args pa)
    (hvars : DataW.TrodVars enc P W' (fun b => decide (b < W.heap.size)) s.vars (s.fn H (ds ++ gs)).vars pv)
    (hps : before = pa ++ pv) (hb : Below W.heap.size W W') :
    s.post enc P f apart fresh handsOn false W args v W' := by
  refine ⟨ds, gs, before, [], pa, pv, hW, hres _ _ _, hargs, hvars, World.keptBut_mono (fun p hp => ⟨hp, ?_⟩) (hb.frame (· ∈ before)), fun h => by cases h⟩
  rw [hps, List.mem_append] at hp
  exact Or.inr hp

theorem cellsInt : Try.prog.cellsOf 3 = 1 := by kernel_rfl

/-- A slice of integers that came in: its address, its length, and what it holds. -/
theorem openInts {H : Type} {enc : TypeId × Value → H} {W : World} {base : Nat} {v : Value} {d : DataW H} {ps : List MemPlace} (hv : Value.okWide Try.prog W .any base 23 v)
    (h : DataW.Trod enc Try.prog W 0 (fun _ => true) true 23 v d ps) :
    ∃ (a : Option Addr) (n c : Nat) (zs : List Int), v = .slice a n c ∧ Has W a n zs ∧ (∀ z ∈ zs, (Lit.int .i64 z).wf = true) := by
  obtain ⟨fuel, hf⟩ := h
  obtain ⟨a0, n0, c0, rfl⟩ := okWide_slice Try.underlying23 hv
  have hcs : (Value.slice a0 n0 c0).cells.toList = [.slice a0 n0 c0] := rfl
  rw [hcs] at hf
  rcases open_ints Try.underlying23 Try.underlying3 cellsInt hf with ⟨e, _⟩ | ⟨a, len, cap, zs, e, _, hl, _, hlen, ex, hc, hwf⟩
  · exact ⟨none, 0, 0, [], by simpa using e, Has.nil_, by simp⟩
  · simp only [if_true] at hlen
    refine ⟨some a, len, cap, zs.take len, by simpa using e, ⟨by rw [List.length_take]; omega, fun hn => ⟨a, rfl, ?_, fun k hk => ?_⟩⟩, fun z hz => hwf z (List.mem_of_mem_take hz)⟩
    · have h0 := World.block_lt_of_cell? W _ (hc 0 (by omega))
      rwa [addBlock] at h0
    · rw [hc k (by omega)]
      simp [List.getD, hk]

end Go.Proofs.Yteiibneaihdmbaa
