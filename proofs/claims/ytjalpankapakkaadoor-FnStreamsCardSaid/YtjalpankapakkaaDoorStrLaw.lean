/- The mathematics of streams, orders and numbers: a stream undoes itself, an order has all numbers, a number is below its bound. No condition. -/
import Derived.Test.YtjalpankapakkaaDoorDg7
namespace Go.Proofs.YtjalpankapakkaaDoor

theorem undo_law {key ys s : List Int} (h : m_StreamXor key ys = (s, true)) : m_StreamXor key s = (ys, true) ∧ s.length = ys.length := by
  by_cases hc : words 10 key = true ∧ good 64 ys = true
  · rw [m_StreamXor, if_pos hc] at h
    obtain ⟨hs, _⟩ := Prod.mk.inj h
    obtain ⟨hl, hy⟩ := good_yes hc.2
    have hsl : s.length = ys.length := by rw [← hs, mapTo_length]
    have hsat : ∀ j, j < ys.length → s.getD j 0 = (ys.getD j 0 + sbit key j) % 2 := fun j hj => by rw [← hs, mapTo_at _ hj]
    have hg : good 64 s = true := good_mk (by omega) fun k hk => by rw [hsat k (by omega)]; omega
    refine ⟨?_, hsl⟩
    rw [m_StreamXor, if_pos ⟨hc.1, hg⟩, hsl]
    congr 1
    rw [list_eq_mapTo ys, mapTo_length]
    refine mapTo_eq fun j hj => ?_
    rw [hsat j hj]
    have := hy j hj
    have := sbit_range key j
    omega
  · rw [m_StreamXor, if_neg hc] at h
    cases h

theorem memAt {l : List Int} {y : Int} : y ∈ l ↔ ∃ j, j < l.length ∧ l.getD j 0 = y := by
  constructor
  · intro h
    obtain ⟨j, hj, e⟩ := List.getElem_of_mem h
    exact ⟨j, hj, by simp [List.getD, hj, e]⟩
  · rintro ⟨j, hj, e⟩
    rw [← e]
    simp [List.getD, hj]

theorem setAt (l : List Int) (i : Nat) (z : Int) {j : Nat} (hj : j < l.length) : (l.set i z).getD j 0 = if i = j then z else l.getD j 0 := by
  simp only [List.getD, List.getElem?_set]
  by_cases e : i = j
  · subst e; simp [hj]
  · simp [e]

theorem swapL_mem {l : List Int} {i k : Nat} (hi : i < l.length) (hk : k < l.length) {y : Int} (h : y ∈ l) : y ∈ swapL l i k := by
  obtain ⟨j, hj, rfl⟩ := memAt.1 h
  rw [memAt, swapL_length]
  have hat : ∀ q, q < l.length → (swapL l i k).getD q 0 = if k = q then l.getD i 0 else if i = q then l.getD k 0 else l.getD q 0 := fun q hq => by
    rw [swapL, setAt _ _ _ (by rw [List.length_set]; exact hq), setAt _ _ _ hq]
  by_cases e1 : j = i
  · subst e1
    exact ⟨k, hk, by rw [hat k hk, if_pos rfl]⟩
  · by_cases e2 : j = k
    · subst e2
      refine ⟨i, hi, ?_⟩
      rw [hat i hi, if_neg e1, if_pos rfl]
    · exact ⟨j, hj, by rw [hat j hj, if_neg (by omega), if_neg (by omega)]⟩

theorem ordK_le (zs : List Int) (i : Nat) (hi : 1 ≤ i) : ordK zs i ≤ i := by
  obtain ⟨_, κ, _, _, _, _, h, HK⟩ := ordAt zs i hi
  rw [← HK.out]; exact h

theorem permGo_mem (zs : List Int) {y : Int} : ∀ (i : Nat) (l : List Int), i < l.length ∨ i = 0 → y ∈ l → y ∈ permGo zs i l
  | 0, _, _, h => h
  | i + 1, l, hi, h => by
    have hl : i + 1 < l.length := by omega
    rw [permGo]
    refine permGo_mem zs i _ (.inl (by rw [swapL_length]; omega)) (swapL_mem hl ?_ h)
    have := ordK_le zs (i + 1) (by omega)
    omega

theorem order_law2 {zs : List Int} {x : Int} {rs : List Int} (h : m_OrderFrom zs x = (rs, true)) : 0 ≤ x ∧ x ≤ 40 ∧ (rs.length : Int) = x ∧ ∀ i : Nat, (i : Int) < x → (i : Int) ∈ rs := by
  by_cases hc : words 10 zs = true ∧ 0 ≤ x ∧ x ≤ 40
  · rw [m_OrderFrom, if_pos hc] at h
    obtain ⟨hs, _⟩ := Prod.mk.inj h
    have hl : (ident x.toNat).length = x.toNat := mapTo_length _ _
    refine ⟨hc.2.1, hc.2.2, by rw [← hs, permGo_length, hl]; omega, fun i hi => ?_⟩
    rw [← hs]
    refine permGo_mem zs _ _ (by rw [hl]; omega) ?_
    rw [memAt, hl]
    exact ⟨i, by omega, by rw [ident, mapTo_at _ (by omega)]⟩
  · rw [m_OrderFrom, if_neg hc] at h
    cases h

theorem number_law {zs : List Int} {x y : Int} (h : m_NumberFrom zs x = (y, true)) : 0 ≤ y ∧ y < x := by
  by_cases hc : words 10 zs = true ∧ 1 ≤ x ∧ x ≤ 10000
  · rw [m_NumberFrom, if_pos hc] at h
    obtain ⟨hs, _⟩ := Prod.mk.inj h
    rw [← hs]
    exact ⟨Int.emod_nonneg _ (by omega), Int.emod_lt_of_pos _ (by omega)⟩
  · rw [m_NumberFrom, if_neg hc] at h
    cases h

end Go.Proofs.YtjalpankapakkaaDoor
