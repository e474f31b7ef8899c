/- What the model's test of equations does, its copy of a list, and rows of the call's own that lie in blocks of their own. For slices of at most 16777216 elements. -/
import Derived.Test.YtadkbfjhghipaaaDoorMat5
namespace Go.Proofs.YtadkbfjhghipaaaDoor
open Go.RowKit Go.Shelf

set_option maxHeartbeats 1000000 in
theorem l1Own_any (ad : Addr) (n c : Nat) (zs : List Int) (w : World) (h : Has w (some ad) n zs) (hn : n ≤ 16777216) :
    Calls Tryd.prog 48 #[.slice (some ad) n c] w fun e w' => ∃ R c', e = .returned (.slice R n c') ∧ Own w' w.heap.size R n c' zs ∧ Below w.heap.size w w' := by
  have hB1 := belowNew w (.cells #[] 3)
  have own0 : (w.alloc (.cells #[] 3)).ownsRow w.heap.size 3 1 (.slice (some ⟨w.heap.size, 0, none⟩) 0 0) 0 (vals []) := World.ownsRow_lit w #[] 0 (Nat.le_refl _) (Nat.zero_le _) rfl
  have hT := h.below hB1
  go_enter Tryd.func48, Tryd.ntmps48
  go_wp2_with (at_builtin; refine appendMany _ rfl (.tmp 3) (.tmp 4) rfl w.heap.size _ (some ad) 0 n c [] zs rfl own0 rfl (fun e => by cases e) hT (by omega) (by omega) hB1.size ?_; intro v1 w1 own1 b1; rw [Nat.zero_add, List.nil_append] at own1)
  go_ret
  obtain ⟨R, c', rfl, ho⟩ := ownOf own1
  exact ⟨R, c', rfl, ho, hB1.trans b1⟩

end Go.Proofs.YtadkbfjhghipaaaDoor
