/- The mathematics of digests and counts: a digest is a label, and no more digests than lists are counted, and at least one. No condition. -/
import Derived.Test.YtjalpankapakkaaDoorDg8
namespace Go.Proofs.YtjalpankapakkaaDoor

theorem digest_law {zs : List Int} {y : Int} (h : m_DigestOf zs = (y, true)) : 0 ≤ y ∧ y ≤ 65535 := by
  by_cases hc : words 12 zs = true
  · rw [m_DigestOf, if_pos hc] at h
    obtain ⟨hs, _⟩ := Prod.mk.inj h
    have := dg_range zs
    omega
  · rw [m_DigestOf, if_neg hc] at h
    cases h

theorem count_law {first n y : Int} (h : m_CountDigests first n = (y, true)) : 0 ≤ n ∧ n ≤ 200 ∧ 0 ≤ y ∧ y ≤ n ∧ (0 < n → 1 ≤ y) := by
  by_cases hc : -1000000000 ≤ first ∧ first ≤ 1000000000 ∧ 0 ≤ n ∧ n ≤ 200 ∧ first + n - 1 ≤ 1000000000
  · rw [m_CountDigests, if_pos hc] at h
    obtain ⟨hs, _⟩ := Prod.mk.inj h
    have hl : (dgs first n.toNat).length = n.toNat := mapTo_length _ _
    have hle := distinct_length_le (dgs first n.toNat)
    refine ⟨hc.2.2.1, hc.2.2.2.1, by omega, by omega, fun hn => ?_⟩
    have hm : dg [first + ((0 : Nat) : Int)] ∈ dgs first n.toNat := List.mem_map.2 ⟨0, List.mem_range.2 (by omega), rfl⟩
    have h1 := ((distinct_is (dgs first n.toNat)).2 _).2 hm
    have := List.length_pos_of_mem h1
    omega
  · rw [m_CountDigests, if_neg hc] at h
    cases h

end Go.Proofs.YtjalpankapakkaaDoor
