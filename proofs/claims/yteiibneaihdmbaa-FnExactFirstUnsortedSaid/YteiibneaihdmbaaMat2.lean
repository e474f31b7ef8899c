/- What the program's small functions over lists of lists do: copies, the closures of SolveLinear and eliminate, the search for a row. For slices of at most 16777216 elements. -/
import Derived.Test.YteiibneaihdmbaaMat1
import Derived.Test.YteiibneaihdmbaaFld13
import Derived.Deep.RegionLaw
import Derived.Deep.AppendLies
namespace Go.Proofs.Yteiibneaihdmbaa
open Go.RowKit
set_option maxRecDepth 100000

set_option maxHeartbeats 1000000 in
theorem clone_any (ad : Addr) (n c : Nat) (zs : List Int) (w : World) (h : Has w (some ad) n zs) (hn : n ≤ 16777216) :
    Calls Try.prog 139 #[.slice (some ad) n c] w fun e w' => ∃ R c', e = .returned (.slice R n c') ∧ Own w' w.heap.size R n c' zs ∧ Below w.heap.size w w' := by
  have hB1 := belowNew w (.cells #[] 3)
  have own0 : (w.alloc (.cells #[] 3)).ownsRow w.heap.size 3 1 (.slice (some ⟨w.heap.size, 0, none⟩) 0 0) 0 (vals []) := World.ownsRow_lit w #[] 0 (Nat.le_refl _) (Nat.zero_le _) rfl
  have hT := h.below hB1
  have hne : ∀ w : World, Sem.run Try.prog (binOp BinOp.eql 23 (.slice (some ad) n c) (.slice none 0 0)) w = .ok (.bool false) w := fun _ => rfl
  go_enter Try.func139, Try.ntmps139
  go_wp2_with (at_builtin; refine appendMany _ rfl (.tmp 5) (.tmp 6) rfl w.heap.size _ (some ad) 0 n c [] zs rfl own0 rfl (fun e => by cases e) hT (by omega) (by omega) hB1.size ?_; intro v1 w1 own1 b1; rw [Nat.zero_add, List.nil_append] at own1)
  go_ret
  obtain ⟨R, c', rfl, ho⟩ := ownOf own1
  exact ⟨R, c', rfl, ho, hB1.trans b1⟩

end Go.Proofs.Yteiibneaihdmbaa
