/- What the model's draw of a short text yields. For every list of bytes. -/
import Derived.Test.YtjalpankapakkaaDoorCur7
namespace Go.Proofs.YtjalpankapakkaaDoor
open Go.RowKit

theorem ofLitAt (A : Option Addr) (g n c K : Nat) (bs : List Int) (vs : Array Value) (k q : Nat) (w : World) (h : Cur w g A n c bs K) (hq : w.heap.size = q) (hv : ∀ j, j < k → ∃ s : ByteArray, vs[j]? = some (.string s) ∧ s.size ≤ 1000) (hk : 0 < k) (hk2 : k ≤ 1000) (hK : K ≤ 1073741824) :
    Calls Tryd.prog 56 #[.pointer (some ⟨g, 0, none⟩), .slice (some ⟨q, 0, none⟩) k k] (w.alloc (.cells vs 9)) fun e w' => ∃ s : ByteArray, e = .returned (.string s) ∧ s.size ≤ 1000 ∧ Cur w' g A n c bs (K + 2) ∧ w.grownBy w' (some g) := by
  subst hq
  exact ofLit A g n c K bs vs k w h hv hk hk2 hK

set_option maxHeartbeats 1000000 in
theorem DrawTextDigest_any (A : Option Addr) (n c : Nat) (bs : List Int) (w : World) (h : HasB w A n bs) : Calls Tryd.prog 29 #[.slice A n c] w fun e w' => ∃ s : ByteArray, e = .returned (.string s) ∧ s.size ≤ 1000 ∧ Below w.heap.size w w' := by
  have hc := curNew c h
  go_enter Tryd.func29, Tryd.ntmps29
  go_wp2_with fail
  refine (ofLitAt A w.heap.size n c 0 bs _ 6 _ _ hc (by simp) ?_ (by omega) (by omega) (by omega)).mono ?_
  · intro j hj
    rcases (by omega : j = 0 ∨ j = 1 ∨ j = 2 ∨ j = 3 ∨ j = 4 ∨ j = 5) with rfl | rfl | rfl | rfl | rfl | rfl <;> exact ⟨_, rfl, by decide⟩
  rintro e w1 ⟨s, rfl, hs, hc1, hg1⟩
  go_wp2_with fail
  go_ret
  exact ⟨s, rfl, hs, belowCur hg1⟩

end Go.Proofs.YtjalpankapakkaaDoor
