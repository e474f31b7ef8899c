/- The program's IsProgram answers as the model's. For lists of at most 1048576 lines; the forms of the lines and the words of the operations are as start-up lays them. -/
import Derived.Test.YtcbofogmfelpkaaDoorLnM4
import Derived.Test.YtcbofogmfelpkaaDoorLnG5
namespace Go.Proofs.YtcbofogmfelpkaaDoor
open Go Go.RowKit
set_option maxRecDepth 100000

theorem impl_IsProgram (A : Option Addr) (n c : Nat) (ls : List Ln) (rb : Bool) (w : World) (h : HasL w A n ls) (hn : n ≤ 1048576) (_hnc : n ≤ c) (hz : ∀ j, j < n → FitL (lnAt ls j)) (hF : Forms w) (hW : OpWords w) (hm : m_IsProgram ls = rb) :
    Calls Tryd.prog 15 #[.slice A n c] w fun e w' => e = .returned (.bool rb) ∧ Below w.heap.size w w' := by
  have h1 := implIsProgram_any A n c ls w h hn hz hF hW
  rw [good_same, show goodP ls = rb from hm] at h1
  exact h1

end Go.Proofs.YtcbofogmfelpkaaDoor
