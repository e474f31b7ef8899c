/- The cells of a row of the call's own, one by one. No condition beyond what each lemma names. -/
import Derived.Test.YtadkbfjhghipaaaDoorFld13
namespace Go.Proofs.YtadkbfjhghipaaaDoor
open Go.RowKit

section
variable {w w' : World} {A : Option Addr} {B g n c k : Nat} {zs : List Int}
theorem Own.spot (h : Own w B A n c zs) (hn : 0 < n) : ∃ g, A = some ⟨g, 0, none⟩ := by
  obtain ⟨g, cap, hv, _⟩ := h.2.form hn
  injection hv with hA
  exact ⟨g, hA⟩
theorem Own.cellR (h : Own w B (some ⟨g, 0, none⟩) n c zs) (hk : k < n) : w.cell? ⟨g, k, none⟩ = some (.int .i64 (zs.getD k 0)) := by
  rw [h.2.cellAt k (by omega), vals_at zs k (by rw [h.1]; exact hk)]
theorem Own.freeR (h : Own w B (some ⟨g, 0, none⟩) n c zs) (k : Nat) : w.frozen? ⟨g, k, none⟩ = false := h.2.frozenAt k
theorem Own.putR (h : Own w B (some ⟨g, 0, none⟩) n c zs) (k : Nat) (z : Int) : Own (w.setCell ⟨g, k, none⟩ (.int .i64 z)) B (some ⟨g, 0, none⟩) n c (zs.set k z) :=
  ⟨by rw [List.length_set, h.1], by rw [← vals_set]; exact (h.2.stored k _).1⟩
theorem Own.drew (h : Own w B A n c zs) : Own w.drew B A n c zs := h
end

end Go.Proofs.YtadkbfjhghipaaaDoor
