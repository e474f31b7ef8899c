/- The program's IsProgram. For lists of at most 1048576 lines; the forms of the lines and the words of the operations are as start-up lays them. -/
import Derived.Test.YtcbofogmfelpkaaDoorLnI18
namespace Go.Proofs.YtcbofogmfelpkaaDoor
open Go Go.RowKit Go.Shelf
set_option maxRecDepth 100000

def progGood (ls : List Ln) : Bool :=
  decide (ls.length ≤ 30) && (ls.all lineOk && (namesGiven ls && (!((progW ls).contains 0) && (decide ((outsOf ls (progW ls)).length ≤ 10) && (decide ((inputsOf 0 ls).sum ≤ 20) && decide ((inputsOf 1 ls).sum ≤ 20))))))
theorem inputs_ok {ls : List Ln} (h : ls.all lineOk = true) (p : Int) (j : Nat) : 0 ≤ (inputsOf p ls).getD j 0 ∧ (inputsOf p ls).getD j 0 ≤ 1000 := by
  have key := getD_map_range (l := ls.filter fun x => decide (x.kind = 1 ∧ x.party = p)) (f := (·.width)) (b := 10) (by omega) (fun x hx => by
    rw [List.mem_filter, decide_eq_true_eq] at hx
    obtain ⟨hx, h1, _⟩ := hx
    rw [List.all_eq_true] at h
    exact lineOk_width (h x hx) (.inl h1)) j
  have e : ((ls.filter fun x => decide (x.kind = 1 ∧ x.party = p)).map (·.width)) = inputsOf p ls := rfl
  rw [e] at key
  exact ⟨key.1, by omega⟩
theorem contains0_any (g n c : Nat) (zs : List Int) (w : World) (h : Has w (some ⟨g, 0, none⟩) n zs) (hn : n ≤ 1048576) :
    Calls Tryd.prog 48 #[.slice (some ⟨g, 0, none⟩) n c, .int .i64 0] w fun e w' => e = .returned (.bool (zs.contains 0)) ∧ w' = w := by
  have hl := h.1
  have e : zs.take n = zs := List.take_of_length_le (by omega)
  have h1 := Any.slices_Contains_int laysContainsI g 0 n c zs 0 w (by omega) (by omega) (fun j hj => by
    obtain ⟨ad, x, e, hc, HZ⟩ := h.elem (k := j) (by omega)
    obtain rfl : ad = ⟨g, 0, none⟩ := (Option.some.inj e).symm
    rw [addL] at hc
    rw [hc, HZ.out])
  rw [e] at h1
  exact h1

end Go.Proofs.YtcbofogmfelpkaaDoor
