/- What the tests of points do: the model puts the points in order into a list without repetitions, the program looks each point up among those before it. For slices of at most 16777216 elements. -/
import Derived.Test.YtadkbfjhghipaaaDoorFld6
import Derived.Laws.AppendOwnNone
namespace Go.Proofs.YtadkbfjhghipaaaDoor
open Go.RowKit

/-- append(a, b...) where a is a row of the call's own. -/
theorem appendMany {ops : Array Oper} {rest : List Oper} {o : Oper} {a : Act} {Q : Exit → Act → World → Prop} (w : World) (hgd : o.guard = none) (s x : Operand)
    (ho : o.op = .call { callee := .builtin .append, args := #[s, x], argTypes := #[22, 22] }) (S : Nat) (v : Value) (B : Option Addr) (n m c : Nat) (zs ys : List Int) (hs : a.eval s = v) (hv : w.ownsRow S 3 1 v n (vals zs))
    (hx : a.eval x = .slice B m c) (hnil : B = none → m = 0 ∧ c = 0) (hB : Has w B m ys) (hn : n ≤ 33554432) (hm : m ≤ 33554432) (hS : S ≤ w.heap.size)
    (h : ∀ v' w', w'.ownsRow S 3 1 v' (n + m) (vals (zs ++ ys)) → Below S w w' → wpList Tryd.prog ops Q rest (a.put o.dst v') w') :
    wpList Tryd.prog ops Q (o :: rest) a w := by
  obtain ⟨i0, hi, hz0, hz1, hz2⟩ := info_parts infoInt
  cases B with
  | none =>
    obtain ⟨rfl, rfl⟩ := hnil rfl
    have e : ys = [] := List.length_eq_zero_iff.1 hB.1
    subst e
    refine wpList_append_own_none hgd s x _ ho S 3 i0 1 Tryd.underlying22 hi v n (vals zs) hs hv hx ?_
    have := h v w (by simpa using hv) (Below.refl _ _)
    exact this
  | some ad =>
    refine wpList_append_own _ hgd s x _ ho S 3 i0 (.int .i64 0) 1 8 Tryd.underlying22 hi hz0 hz1 hz2 rfl (by decide) v n (vals zs) hs hv ad m c (vals ys) hx (by rw [vals_length, hB.1]; omega) ?_ (vals_one ys) (by simp only [maxLen]; omega) (by omega) hS ?_
    · intro j u hj
      by_cases h0 : j < m
      · obtain ⟨b', e', _, hc'⟩ := hB.2 (by omega)
        obtain rfl := Option.some.inj e'
        rw [hc' j h0, ← hj, vals_at ys j (by rw [hB.1]; exact h0)]
      · rw [List.getElem?_eq_none (by rw [vals_length, hB.1]; omega)] at hj
        cases hj
    · intro v' w' h2 h3 _
      rw [← vals_append] at h2
      have hlt := hv.lt
      exact h v' w' h2 ((Below.refl S w).grown h3 hS fun k hk => (hlt k hk).1)

/-- How long the list is with x. -/
def putLen (zs : List Int) (x : Int) (n : Nat) : Nat := if x ∈ zs then n else n + 1

/-- A slice that is nil only where it is empty. -/
def NilOk (A : Option Addr) (n c : Nat) : Prop := A = none → n = 0 ∧ c = 0

theorem own_nilOk {w : World} {B : Nat} {A : Option Addr} {n c : Nat} {zs : List Int} (h : Own w B A n c zs) : NilOk A n c := by
  intro e
  subst e
  rcases h.2.2 with ⟨hv, h0⟩ | ⟨g, cap, cur, hv, _⟩
  · injection hv with _ h1 h2
    exact ⟨h1, h2⟩
  · cases hv

/-- Put x into an ordered list, in front of position j. -/
theorem putOrder {zs : List Int} {x : Int} {j : Nat} (hs : zs.Pairwise (· < ·)) (hj : j ≤ zs.length) (hlt : ∀ i, i < j → zs.getD i 0 < x) (hge : j < zs.length → x < zs.getD j 0) :
    (zs.take j ++ [x] ++ zs.drop j).Pairwise (· < ·) ∧ (∀ y, y ∈ zs.take j ++ [x] ++ zs.drop j ↔ y = x ∨ y ∈ zs) ∧ x ∉ zs := by
  have h1 : ∀ y ∈ zs.take j, y < x := by
    intro y hy
    obtain ⟨i, hi, rfl⟩ := List.getElem_of_mem hy
    have hi' : i < j := by simp at hi; omega
    have := hlt i hi'
    rw [List.length_take] at hi
    rw [List.getElem_take]
    simpa [List.getD, show i < zs.length by omega] using this
  have h2 : ∀ y ∈ zs.drop j, x < y := by
    intro y hy
    obtain ⟨i, hi, rfl⟩ := List.getElem_of_mem hy
    simp at hi
    have h3 := hge (by omega)
    rw [List.getElem_drop]
    have h4 : zs.getD j 0 = zs[j]'(by omega) := by simp [List.getD, show j < zs.length by omega]
    rw [h4] at h3
    by_cases e : i = 0
    · subst e; simpa using h3
    · have := List.pairwise_iff_getElem.1 hs j (j + i) (by omega) (by omega) (by omega)
      omega
  refine ⟨?_, ?_, ?_⟩
  · rw [List.append_assoc, List.pairwise_append]
    refine ⟨hs.sublist (List.take_sublist _ _), ?_, ?_⟩
    · rw [List.singleton_append, List.pairwise_cons]
      exact ⟨h2, hs.sublist (List.drop_sublist _ _)⟩
    · intro a ha b hb
      rw [List.singleton_append, List.mem_cons] at hb
      rcases hb with rfl | hb
      · exact h1 a ha
      · have := h1 a ha
        have := h2 b hb
        omega
  · intro y
    rw [List.mem_append, List.mem_append, List.mem_singleton]
    have : y ∈ zs ↔ y ∈ zs.take j ∨ y ∈ zs.drop j := by rw [← List.mem_append, List.take_append_drop]
    rw [this]
    constructor
    · rintro ((h | h) | h) <;> simp [h]
    · rintro (h | h | h) <;> simp [h]
  · intro hx
    rw [← List.take_append_drop j zs, List.mem_append] at hx
    rcases hx with hx | hx
    · have := h1 x hx; omega
    · have := h2 x hx; omega

theorem Has.take {w : World} {A : Option Addr} {n k : Nat} {zs : List Int} (h : Has w A n zs) (hk : k ≤ n) : Has w A k (zs.take k) := by
  refine ⟨by rw [List.length_take, h.1]; omega, fun h0 => ?_⟩
  obtain ⟨ad, e, hb, hc⟩ := h.2 (by omega)
  refine ⟨ad, e, hb, fun j hj => ?_⟩
  rw [hc j (by omega)]
  simp [hj]
theorem addAdd (a : Addr) (k j : Nat) : (a.add k).add j = a.add (k + j) := by
  unfold Addr.add
  by_cases h1 : k = 0
  · simp [h1]
  · by_cases h2 : j = 0
    · simp [h1, h2]
    · simp [h1, h2, ]; omega
theorem Has.drop {w : World} {ad : Addr} {n k : Nat} {zs : List Int} (h : Has w (some ad) n zs) (hk : k ≤ n) : Has w (some (ad.add k)) (n - k) (zs.drop k) := by
  refine ⟨by rw [List.length_drop, h.1], fun h0 => ?_⟩
  obtain ⟨ad', e, hb, hc⟩ := h.2 (by omega)
  obtain rfl := Option.some.inj e
  refine ⟨_, rfl, by rw [addBlock]; exact hb, fun j hj => ?_⟩
  rw [addAdd, hc (k + j) (by omega)]
  simp [List.getD]

set_option maxRecDepth 100000 in
set_option maxHeartbeats 2000000 in
theorem l1Put_any (A : Option Addr) (n c : Nat) (zs : List Int) (x : Int) (w : World) (h : Has w A n zs) (hn : n ≤ 16777216) (hnc : n ≤ c) (hnil : NilOk A n c) (hs : zs.Pairwise (· < ·)) :
    Calls Tryd.prog 43 #[.slice A n c, .int .i64 x] w fun e w' => ∃ R m c', e = .returned (.slice R m c') ∧ m ≤ c' ∧ NilOk R m c' ∧ Below w.heap.size w w' ∧
      ∃ rs : List Int, Has w' R m rs ∧ rs.Pairwise (· < ·) ∧ (∀ y, y ∈ rs ↔ y = x ∨ y ∈ zs) ∧ m = putLen zs x n := by
  have HL := Lib.hid h.1
  have HS := Lib.hid hs
  clear hs
  go_enter Tryd.func43, Tryd.ntmps43
  go_wp2
  go_loop [5] (fun i => ∃ k : Nat, k ≤ n ∧ i = .int .i64 k ∧ Hid (∀ j, j < k → zs.getD j 0 < x)) (fun i => n - (intOf i).toNat)
  case atStart => exact ⟨0, Nat.zero_le _, rfl, fun j hj => absurd hj (by omega)⟩
  case round =>
    obtain ⟨k, hk, rfl, HJ⟩ := hrel
    by_cases hlt : k < n
    · obtain ⟨ad, z, rfl, hc, HZ⟩ := h.elem hlt
      by_cases hz : z < x
      · go_wp2
        go_round
        case rel =>
          refine ⟨k + 1, by omega, by go_num, fun j hj => ?_⟩
          by_cases e : j = k
          · rw [e, ← HZ.out]; exact hz
          · exact HJ.out j (by omega)
        case measure => simp [intOf]; omega
      · by_cases hzx : z = x
        · subst hzx
          go_wp2
          go_ret
          have hmem : z ∈ zs := by
            rw [HZ.out]
            have := HL.out
            simp [List.getD, show k < zs.length by omega]
          refine ⟨some ad, n, c, rfl, hnc, hnil, Below.refl _ _, zs, h, HS.out, fun y => ⟨.inr, fun h => h.elim (fun e => e ▸ hmem) id⟩, (if_pos hmem).symm⟩
        · have hzx' : (z == x) = false := by simpa using hzx
          have hxz : x < z := by omega
          clear hz
          have hB1 := belowNew w (.cells #[] 3)
          have own0 : (w.alloc (.cells #[] 3)).ownsRow w.heap.size 3 1 (.slice (some ⟨w.heap.size, 0, none⟩) 0 0) 0 (vals []) := World.ownsRow_lit w #[] 0 (Nat.le_refl _) (Nat.zero_le _) rfl
          obtain ⟨w0, hw0⟩ : ∃ w0, w.alloc (.cells #[] 3) = w0 := ⟨_, rfl⟩
          rw [hw0] at hB1 own0
          have hT := (h.below hB1).take (k := k) (by omega)
          have HW := Lib.hid hw0
          clear hw0
          go_wp2_with (first
            | (at_builtin; rw [HW.out]; refine appendMany w0 rfl (.tmp 34) (.tmp 37) rfl w.heap.size _ (some ad) 0 k c [] (zs.take k) rfl own0 rfl (fun e => by cases e) hT (by omega) (by omega) hB1.size ?_; intro v1 w1 own1 b1; rw [Nat.zero_add, List.nil_append] at own1; have hs1 : w.heap.size ≤ w1.heap.size := Nat.le_trans hB1.size b1.size)
            | (at_builtin; refine appendInt w1 rfl (.tmp 39) (.tmp 41) rfl x w.heap.size v1 k (zs.take k) rfl rfl own1 (by omega) hs1 ?_; intro v2 w2 own2 b2; have B2 := (hB1.trans b1).trans b2; have hD := (h.below B2).drop (k := k) (by omega))
            | (at_builtin; refine appendMany w2 rfl (.tmp 43) (.tmp 46) rfl w.heap.size v2 (some (ad.add k)) (k + 1) (n - k) (c - k) (zs.take k ++ [x]) (zs.drop k) rfl own2 rfl (fun e => by cases e) hD (by omega) (by omega) B2.size ?_; intro v3 w3 own3 b3))
          go_ret
          obtain ⟨R, c', rfl, ho⟩ := ownOf own3
          have hlen := HL.out
          obtain ⟨g1, g2, g3⟩ := putOrder (x := x) (j := k) HS.out (by omega) HJ.out (fun _ => by rw [← HZ.out]; exact hxz)
          exact ⟨R, _, c', rfl, ho.capLe, own_nilOk ho, B2.trans b3, _, ho.has, g1, g2, by rw [putLen, if_neg g3]; omega⟩
    · obtain rfl : k = n := by omega
      cases A with
      | some ad =>
        by_cases hkc : k < c
        · have hB1 := belowNew w (.cells #[] 3)
          have own0 : (w.alloc (.cells #[] 3)).ownsRow w.heap.size 3 1 (.slice (some ⟨w.heap.size, 0, none⟩) 0 0) 0 (vals []) := World.ownsRow_lit w #[] 0 (Nat.le_refl _) (Nat.zero_le _) rfl
          obtain ⟨w0, hw0⟩ : ∃ w0, w.alloc (.cells #[] 3) = w0 := ⟨_, rfl⟩
          rw [hw0] at hB1 own0
          have hT := (h.below hB1).take (k := k) (by omega)
          have HW := Lib.hid hw0
          clear hw0
          go_wp2_with (first
            | (at_builtin; rw [HW.out]; refine appendMany w0 rfl (.tmp 34) (.tmp 37) rfl w.heap.size _ (some ad) 0 k c [] (zs.take k) rfl own0 rfl (fun e => by cases e) hT (by omega) (by omega) hB1.size ?_; intro v1 w1 own1 b1; rw [Nat.zero_add, List.nil_append] at own1; have hs1 : w.heap.size ≤ w1.heap.size := Nat.le_trans hB1.size b1.size)
            | (at_builtin; refine appendInt w1 rfl (.tmp 39) (.tmp 41) rfl x w.heap.size v1 k (zs.take k) rfl rfl own1 (by omega) hs1 ?_; intro v2 w2 own2 b2; have B2 := (hB1.trans b1).trans b2; have hD := (h.below B2).drop (k := k) (Nat.le_refl k); rw [Nat.sub_self] at hD)
            | (at_builtin; refine appendMany w2 rfl (.tmp 43) (.tmp 46) rfl w.heap.size v2 (some (ad.add k)) (k + 1) 0 (c - k) (zs.take k ++ [x]) (zs.drop k) rfl own2 rfl (fun e => by cases e) hD (by omega) (by omega) B2.size ?_; intro v3 w3 own3 b3))
          go_ret
          obtain ⟨R, c', rfl, ho⟩ := ownOf own3
          have hlen := HL.out
          obtain ⟨g1, g2, g3⟩ := putOrder (x := x) (j := k) HS.out (by omega) HJ.out (fun h => by omega)
          exact ⟨R, _, c', rfl, ho.capLe, own_nilOk ho, B2.trans b3, _, ho.has, g1, g2, by rw [putLen, if_neg g3]⟩
        · obtain rfl : c = k := by omega
          clear hkc
          have hB1 := belowNew w (.cells #[] 3)
          have own0 : (w.alloc (.cells #[] 3)).ownsRow w.heap.size 3 1 (.slice (some ⟨w.heap.size, 0, none⟩) 0 0) 0 (vals []) := World.ownsRow_lit w #[] 0 (Nat.le_refl _) (Nat.zero_le _) rfl
          obtain ⟨w0, hw0⟩ : ∃ w0, w.alloc (.cells #[] 3) = w0 := ⟨_, rfl⟩
          rw [hw0] at hB1 own0
          have hT := (h.below hB1).take (k := c) (by omega)
          have HW := Lib.hid hw0
          clear hw0
          go_wp2_with (first
            | (at_builtin; rw [HW.out]; refine appendMany w0 rfl (.tmp 34) (.tmp 37) rfl w.heap.size _ (some ad) 0 c c [] (zs.take c) rfl own0 rfl (fun e => by cases e) hT (by omega) (by omega) hB1.size ?_; intro v1 w1 own1 b1; rw [Nat.zero_add, List.nil_append] at own1; have hs1 : w.heap.size ≤ w1.heap.size := Nat.le_trans hB1.size b1.size)
            | (at_builtin; refine appendInt w1 rfl (.tmp 39) (.tmp 41) rfl x w.heap.size v1 c (zs.take c) rfl rfl own1 (by omega) hs1 ?_; intro v2 w2 own2 b2; have B2 := (hB1.trans b1).trans b2; have hD : Has w2 (some ad) 0 (zs.drop c) := ⟨by rw [List.length_drop, HL.out, Nat.sub_self], fun h => absurd h (by omega)⟩)
            | (at_builtin; refine appendMany w2 rfl (.tmp 43) (.tmp 46) rfl w.heap.size v2 (some ad) (c + 1) 0 0 (zs.take c ++ [x]) (zs.drop c) rfl own2 rfl (fun e => by cases e) hD (by omega) (by omega) B2.size ?_; intro v3 w3 own3 b3))
          go_ret
          obtain ⟨R, c', rfl, ho⟩ := ownOf own3
          have hlen := HL.out
          obtain ⟨g1, g2, g3⟩ := putOrder (x := x) (j := c) HS.out (by omega) HJ.out (fun h => by omega)
          exact ⟨R, _, c', rfl, ho.capLe, own_nilOk ho, B2.trans b3, _, ho.has, g1, g2, by rw [putLen, if_neg g3]⟩
      | none =>
        obtain ⟨rfl, rfl⟩ := hnil rfl
        obtain rfl : zs = [] := List.length_eq_zero_iff.1 h.1
        have hB1 := belowNew w (.cells #[] 3)
        have own0 : (w.alloc (.cells #[] 3)).ownsRow w.heap.size 3 1 (.slice (some ⟨w.heap.size, 0, none⟩) 0 0) 0 (vals []) := World.ownsRow_lit w #[] 0 (Nat.le_refl _) (Nat.zero_le _) rfl
        obtain ⟨w0, hw0⟩ : ∃ w0, w.alloc (.cells #[] 3) = w0 := ⟨_, rfl⟩
        rw [hw0] at hB1 own0
        have hT := h.below hB1
        have HW := Lib.hid hw0
        clear hw0
        go_wp2_with (first
          | (at_builtin; rw [HW.out]; refine appendMany w0 rfl (.tmp 34) (.tmp 37) rfl w.heap.size _ none 0 0 0 [] [] rfl own0 rfl (fun _ => ⟨rfl, rfl⟩) hT (by omega) (by omega) hB1.size ?_; intro v1 w1 own1 b1; rw [Nat.zero_add, List.nil_append] at own1; have hs1 : w.heap.size ≤ w1.heap.size := Nat.le_trans hB1.size b1.size)
          | (at_builtin; refine appendInt w1 rfl (.tmp 39) (.tmp 41) rfl x w.heap.size v1 0 [] rfl rfl own1 (by omega) hs1 ?_; intro v2 w2 own2 b2; have B2 := (hB1.trans b1).trans b2; have hD := h.below B2)
          | (at_builtin; refine appendMany w2 rfl (.tmp 43) (.tmp 46) rfl w.heap.size v2 none (0 + 1) 0 0 ([] ++ [x]) [] rfl own2 rfl (fun _ => ⟨rfl, rfl⟩) hD (by omega) (by omega) B2.size ?_; intro v3 w3 own3 b3))
        go_ret
        obtain ⟨R, c', rfl, ho⟩ := ownOf own3
        have hlen := HL.out
        obtain ⟨g1, _, _⟩ := putOrder (x := x) (j := 0) HS.out (by omega) HJ.out (fun h => by omega)
        exact ⟨R, _, c', rfl, ho.capLe, own_nilOk ho, B2.trans b3, _, ho.has, g1, by simp, by simp [putLen]⟩

end Go.Proofs.YtadkbfjhghipaaaDoor
