/- Words for memory and arithmetic that the chapters share: numbers without overflow, appending, rows of the call's own cell by cell, lists built in place, the model's copy of a list and its ordered sets. No condition beyond what each lemma names. -/
import Derived.Test.YteiibneaihdmbaaLists
import Derived.Test.YteiibneaihdmbaaHelp
import Derived.ArgAppend
import Derived.Laws.AppendOwnNone
namespace Go.Proofs.Yteiibneaihdmbaa
open Go.RowKit
set_option maxRecDepth 100000

theorem memAt {l : List Int} {y : Int} : y ∈ l ↔ ∃ j, j < l.length ∧ l.getD j 0 = y := by
  constructor
  · intro h
    obtain ⟨j, hj, e⟩ := List.getElem_of_mem h
    exact ⟨j, hj, by simp [List.getD, hj, e]⟩
  · rintro ⟨j, hj, e⟩
    rw [← e]
    simp [List.getD, hj]
theorem tmodPos {a b : Int} (ha : 0 ≤ a) : a.tmod b = a % b := Int.tmod_eq_emod_of_nonneg ha
theorem belowNew (w : World) (o : Obj) : Below w.heap.size w (w.alloc o) := (Below.refl _ _).alloc (Nat.le_refl _) _
theorem tmodEmod (a m : Int) : a.tmod m % m = a % m := by
  have h := Int.tmod_add_mul_tdiv a m
  conv => rhs; rw [← h]
  rw [Int.add_mul_emod_self_left]
theorem retI {a b : Int} (h : a = b) : Ending.returned (.int .i64 a) = Ending.returned (.int .i64 b) := by rw [h]
theorem wrapIn {a : Int} (h0 : -9223372036854775808 ≤ a) (h1 : a ≤ 9223372036854775807) : IntKind.i64.wrap a = a := by rw [IntKind.wrap_i64]; omega

theorem drewMore {w wr : World} {m : Nat} (h : ∃ d, wr = w.drewN d) : ∃ d, wr.drewN m = w.drewN d := by
  obtain ⟨d, rfl⟩ := h
  exact ⟨d + m, by simp⟩

/-- append(a, b...) where a is full: a new row. -/
theorem appendFull {ops : Array Oper} {rest : List Oper} {o : Oper} {a : Act} {Q : Exit → Act → World → Prop} (w : World) (hgd : o.guard = none) (s x : Operand)
    (ho : o.op = .call { callee := .builtin .append, args := #[s, x], argTypes := #[23, 23] }) (A B : Option Addr) (n m c : Nat) (zs ys : List Int) (hs : a.eval s = .slice A n n)
    (hx : a.eval x = .slice B m c) (hA : Has w A n zs) (hB : Has w B m ys) (hm : 0 < m) (hn : n ≤ 1048576) (hm2 : m ≤ 1048576)
    (h : ∀ R c' w', Own w' w.heap.size R (n + m) c' (zs ++ ys) → Below w.heap.size w w' → wpList Try.prog ops Q rest (a.put o.dst (.slice R (n + m) c')) w') :
    wpList Try.prog ops Q (o :: rest) a w := by
  obtain ⟨i0, hi, hz0, hz1, hz2⟩ := info_parts infoInt
  obtain ⟨ad, rfl, _, hc⟩ := hB.2 hm
  refine wpList_append_grows w hgd s x _ ho 3 i0 (.int .i64 0) 1 8 Try.underlying23 hi hz0 hz1 hz2 rfl (by decide) A n n (vals zs) hs ?_ (by rw [vals_length, hA.1]; omega) ?_ ad m c (vals ys) hx (by rw [vals_length, hB.1]; omega) ?_ (vals_one ys) (by omega) (by simp only [maxLen]; omega) (by omega) ?_
  · intro e
    by_cases h0 : n = 0
    · exact ⟨h0, h0⟩
    · obtain ⟨_, e', _⟩ := hA.2 (by omega)
      rw [e] at e'
      cases e'
  · intro b e j u hj
    by_cases h0 : j < n
    · obtain ⟨b', e', _, hc'⟩ := hA.2 (by omega)
      rw [e] at e'
      obtain rfl := Option.some.inj e'
      rw [hc' j h0, ← hj, vals_at zs j (by rw [hA.1]; exact h0)]
    · rw [List.getElem?_eq_none (by rw [vals_length, hA.1]; omega)] at hj
      cases hj
  · intro j u hj
    by_cases h0 : j < m
    · rw [hc j h0, ← hj, vals_at ys j (by rw [hB.1]; exact h0)]
    · rw [List.getElem?_eq_none (by rw [vals_length, hB.1]; omega)] at hj
      cases hj
  · intro v' w' h1 h2
    rw [← vals_append] at h1
    obtain ⟨R, c', rfl⟩ := sliceOf h1
    exact h R c' w' ⟨by rw [List.length_append, hA.1, hB.1], h1⟩ (belowOf h2)

theorem Has.keepHeap {w w' : World} {A : Option Addr} {n : Nat} {zs : List Int} (h : Has w A n zs) (e : w'.heap = w.heap) : Has w' A n zs := h.keep (by rw [e]; exact Nat.le_refl _) fun _ _ _ => by rw [e]
theorem cellKept {S : Nat} {W W' : World} (h : Below S W W') {b i : Nat} {v : Value} (hb : b < S) (hc : W.cell? ⟨b, i, none⟩ = some v) : W'.cell? ⟨b, i, none⟩ = some v := (World.cell?_of_block (h.block b hb)).trans hc

/-- append(a, b...) where a is a row of the call's own. -/
theorem appendMany {ops : Array Oper} {rest : List Oper} {o : Oper} {a : Act} {Q : Exit → Act → World → Prop} (w : World) (hgd : o.guard = none) (s x : Operand)
    (ho : o.op = .call { callee := .builtin .append, args := #[s, x], argTypes := #[23, 23] }) (S : Nat) (v : Value) (B : Option Addr) (n m c : Nat) (zs ys : List Int) (hs : a.eval s = v) (hv : w.ownsRow S 3 1 v n (vals zs))
    (hx : a.eval x = .slice B m c) (hnil : B = none → m = 0 ∧ c = 0) (hB : Has w B m ys) (hn : n ≤ 33554432) (hm : m ≤ 33554432) (hS : S ≤ w.heap.size)
    (h : ∀ v' w', w'.ownsRow S 3 1 v' (n + m) (vals (zs ++ ys)) → Below S w w' → wpList Try.prog ops Q rest (a.put o.dst v') w') :
    wpList Try.prog ops Q (o :: rest) a w := by
  obtain ⟨i0, hi, hz0, hz1, hz2⟩ := info_parts infoInt
  cases B with
  | none =>
    obtain ⟨rfl, rfl⟩ := hnil rfl
    have e : ys = [] := List.length_eq_zero_iff.1 hB.1
    subst e
    refine wpList_append_own_none hgd s x _ ho S 3 i0 1 Try.underlying23 hi v n (vals zs) hs hv hx ?_
    have := h v w (by simpa using hv) (Below.refl _ _)
    exact this
  | some ad =>
    refine wpList_append_own _ hgd s x _ ho S 3 i0 (.int .i64 0) 1 8 Try.underlying23 hi hz0 hz1 hz2 rfl (by decide) v n (vals zs) hs hv ad m c (vals ys) hx (by rw [vals_length, hB.1]; omega) ?_ (vals_one ys) (by simp only [maxLen]; omega) (by omega) hS ?_
    · intro j u hj
      by_cases h0 : j < m
      · obtain ⟨b', e', _, hc'⟩ := hB.2 (by omega)
        obtain rfl := Option.some.inj e'
        rw [hc' j h0, ← hj, vals_at ys j (by rw [hB.1]; exact h0)]
      · rw [List.getElem?_eq_none (by rw [vals_length, hB.1]; omega)] at hj
        cases hj
    · intro v' w' h2 h3 _
      rw [← vals_append] at h2
      have hlt := hv.lt
      exact h v' w' h2 ((Below.refl S w).grown h3 hS fun k hk => (hlt k hk).1)

/-- How long the list is with x. -/
def putLen (zs : List Int) (x : Int) (n : Nat) : Nat := if x ∈ zs then n else n + 1

/-- A slice that is nil only where it is empty. -/
def NilOk (A : Option Addr) (n c : Nat) : Prop := A = none → n = 0 ∧ c = 0

theorem own_nilOk {w : World} {B : Nat} {A : Option Addr} {n c : Nat} {zs : List Int} (h : Own w B A n c zs) : NilOk A n c := by
  intro e
  subst e
  rcases h.2.2 with ⟨hv, h0⟩ | ⟨g, cap, cur, hv, _⟩
  · injection hv with _ h1 h2
    exact ⟨h1, h2⟩
  · cases hv

/-- Put x into an ordered list, in front of position j. -/
theorem putOrder {zs : List Int} {x : Int} {j : Nat} (hs : zs.Pairwise (· < ·)) (hj : j ≤ zs.length) (hlt : ∀ i, i < j → zs.getD i 0 < x) (hge : j < zs.length → x < zs.getD j 0) :
    (zs.take j ++ [x] ++ zs.drop j).Pairwise (· < ·) ∧ (∀ y, y ∈ zs.take j ++ [x] ++ zs.drop j ↔ y = x ∨ y ∈ zs) ∧ x ∉ zs := by
  have h1 : ∀ y ∈ zs.take j, y < x := by
    intro y hy
    obtain ⟨i, hi, rfl⟩ := List.getElem_of_mem hy
    have hi' : i < j := by simp at hi; omega
    have := hlt i hi'
    rw [List.length_take] at hi
    rw [List.getElem_take]
    simpa [List.getD, show i < zs.length by omega] using this
  have h2 : ∀ y ∈ zs.drop j, x < y := by
    intro y hy
    obtain ⟨i, hi, rfl⟩ := List.getElem_of_mem hy
    simp at hi
    have h3 := hge (by omega)
    rw [List.getElem_drop]
    have h4 : zs.getD j 0 = zs[j]'(by omega) := by simp [List.getD, show j < zs.length by omega]
    rw [h4] at h3
    by_cases e : i = 0
    · subst e; simpa using h3
    · have := List.pairwise_iff_getElem.1 hs j (j + i) (by omega) (by omega) (by omega)
      omega
  refine ⟨?_, ?_, ?_⟩
  · rw [List.append_assoc, List.pairwise_append]
    refine ⟨hs.sublist (List.take_sublist _ _), ?_, ?_⟩
    · rw [List.singleton_append, List.pairwise_cons]
      exact ⟨h2, hs.sublist (List.drop_sublist _ _)⟩
    · intro a ha b hb
      rw [List.singleton_append, List.mem_cons] at hb
      rcases hb with rfl | hb
      · exact h1 a ha
      · have := h1 a ha
        have := h2 b hb
        omega
  · intro y
    rw [List.mem_append, List.mem_append, List.mem_singleton]
    have : y ∈ zs ↔ y ∈ zs.take j ∨ y ∈ zs.drop j := by rw [← List.mem_append, List.take_append_drop]
    rw [this]
    constructor
    · rintro ((h | h) | h) <;> simp [h]
    · rintro (h | h | h) <;> simp [h]
  · intro hx
    rw [← List.take_append_drop j zs, List.mem_append] at hx
    rcases hx with hx | hx
    · have := h1 x hx; omega
    · have := h2 x hx; omega

theorem Has.take {w : World} {A : Option Addr} {n k : Nat} {zs : List Int} (h : Has w A n zs) (hk : k ≤ n) : Has w A k (zs.take k) := by
  refine ⟨by rw [List.length_take, h.1]; omega, fun h0 => ?_⟩
  obtain ⟨ad, e, hb, hc⟩ := h.2 (by omega)
  refine ⟨ad, e, hb, fun j hj => ?_⟩
  rw [hc j (by omega)]
  simp [hj]
theorem addAdd (a : Addr) (k j : Nat) : (a.add k).add j = a.add (k + j) := by
  unfold Addr.add
  by_cases h1 : k = 0
  · simp [h1]
  · by_cases h2 : j = 0
    · simp [h1, h2]
    · simp [h1, h2, ]; omega
theorem Has.drop {w : World} {ad : Addr} {n k : Nat} {zs : List Int} (h : Has w (some ad) n zs) (hk : k ≤ n) : Has w (some (ad.add k)) (n - k) (zs.drop k) := by
  refine ⟨by rw [List.length_drop, h.1], fun h0 => ?_⟩
  obtain ⟨ad', e, hb, hc⟩ := h.2 (by omega)
  obtain rfl := Option.some.inj e
  refine ⟨_, rfl, by rw [addBlock]; exact hb, fun j hj => ?_⟩
  rw [addAdd, hc (k + j) (by omega)]
  simp [List.getD]

set_option maxRecDepth 100000 in
set_option maxHeartbeats 2000000 in
theorem l1Put_any (A : Option Addr) (n c : Nat) (zs : List Int) (x : Int) (w : World) (h : Has w A n zs) (hn : n ≤ 16777216) (hnc : n ≤ c) (hnil : NilOk A n c) (hs : zs.Pairwise (· < ·)) :
    Calls Try.prog 169 #[.slice A n c, .int .i64 x] w fun e w' => ∃ R m c', e = .returned (.slice R m c') ∧ m ≤ c' ∧ NilOk R m c' ∧ Below w.heap.size w w' ∧
      ∃ rs : List Int, Has w' R m rs ∧ rs.Pairwise (· < ·) ∧ (∀ y, y ∈ rs ↔ y = x ∨ y ∈ zs) ∧ m = putLen zs x n := by
  have HL := Lib.hid h.1
  have HS := Lib.hid hs
  clear hs
  go_enter Try.func169, Try.ntmps169
  go_wp2
  go_loop [5] (fun i => ∃ k : Nat, k ≤ n ∧ i = .int .i64 k ∧ Hid (∀ j, j < k → zs.getD j 0 < x)) (fun i => n - (intOf i).toNat)
  case atStart => exact ⟨0, Nat.zero_le _, rfl, fun j hj => absurd hj (by omega)⟩
  case round =>
    obtain ⟨k, hk, rfl, HJ⟩ := hrel
    by_cases hlt : k < n
    · obtain ⟨ad, z, rfl, hc, HZ⟩ := h.elem hlt
      by_cases hz : z < x
      · go_wp2
        go_round
        case rel =>
          refine ⟨k + 1, by omega, by go_num, fun j hj => ?_⟩
          by_cases e : j = k
          · rw [e, ← HZ.out]; exact hz
          · exact HJ.out j (by omega)
        case measure => simp [intOf]; omega
      · by_cases hzx : z = x
        · subst hzx
          go_wp2
          go_ret
          have hmem : z ∈ zs := by
            rw [HZ.out]
            have := HL.out
            simp [List.getD, show k < zs.length by omega]
          refine ⟨some ad, n, c, rfl, hnc, hnil, Below.refl _ _, zs, h, HS.out, fun y => ⟨.inr, fun h => h.elim (fun e => e ▸ hmem) id⟩, (if_pos hmem).symm⟩
        · have hzx' : (z == x) = false := by simpa using hzx
          have hxz : x < z := by omega
          clear hz
          have hB1 := belowNew w (.cells #[] 3)
          have own0 : (w.alloc (.cells #[] 3)).ownsRow w.heap.size 3 1 (.slice (some ⟨w.heap.size, 0, none⟩) 0 0) 0 (vals []) := World.ownsRow_lit w #[] 0 (Nat.le_refl _) (Nat.zero_le _) rfl
          obtain ⟨w0, hw0⟩ : ∃ w0, w.alloc (.cells #[] 3) = w0 := ⟨_, rfl⟩
          rw [hw0] at hB1 own0
          have hT := (h.below hB1).take (k := k) (by omega)
          have HW := Lib.hid hw0
          clear hw0
          go_wp2_with (first
            | (at_builtin; rw [HW.out]; refine appendMany w0 rfl (.tmp 34) (.tmp 37) rfl w.heap.size _ (some ad) 0 k c [] (zs.take k) rfl own0 rfl (fun e => by cases e) hT (by omega) (by omega) hB1.size ?_; intro v1 w1 own1 b1; rw [Nat.zero_add, List.nil_append] at own1; have hs1 : w.heap.size ≤ w1.heap.size := Nat.le_trans hB1.size b1.size)
            | (at_builtin; refine appendInt w1 rfl (.tmp 39) (.tmp 41) rfl x w.heap.size v1 k (zs.take k) rfl rfl own1 (by omega) hs1 ?_; intro v2 w2 own2 b2; have B2 := (hB1.trans b1).trans b2; have hD := (h.below B2).drop (k := k) (by omega))
            | (at_builtin; refine appendMany w2 rfl (.tmp 43) (.tmp 46) rfl w.heap.size v2 (some (ad.add k)) (k + 1) (n - k) (c - k) (zs.take k ++ [x]) (zs.drop k) rfl own2 rfl (fun e => by cases e) hD (by omega) (by omega) B2.size ?_; intro v3 w3 own3 b3))
          go_ret
          obtain ⟨R, c', rfl, ho⟩ := ownOf own3
          have hlen := HL.out
          obtain ⟨g1, g2, g3⟩ := putOrder (x := x) (j := k) HS.out (by omega) HJ.out (fun _ => by rw [← HZ.out]; exact hxz)
          exact ⟨R, _, c', rfl, ho.capLe, own_nilOk ho, B2.trans b3, _, ho.has, g1, g2, by rw [putLen, if_neg g3]; omega⟩
    · obtain rfl : k = n := by omega
      cases A with
      | some ad =>
        by_cases hkc : k < c
        · have hB1 := belowNew w (.cells #[] 3)
          have own0 : (w.alloc (.cells #[] 3)).ownsRow w.heap.size 3 1 (.slice (some ⟨w.heap.size, 0, none⟩) 0 0) 0 (vals []) := World.ownsRow_lit w #[] 0 (Nat.le_refl _) (Nat.zero_le _) rfl
          obtain ⟨w0, hw0⟩ : ∃ w0, w.alloc (.cells #[] 3) = w0 := ⟨_, rfl⟩
          rw [hw0] at hB1 own0
          have hT := (h.below hB1).take (k := k) (by omega)
          have HW := Lib.hid hw0
          clear hw0
          go_wp2_with (first
            | (at_builtin; rw [HW.out]; refine appendMany w0 rfl (.tmp 34) (.tmp 37) rfl w.heap.size _ (some ad) 0 k c [] (zs.take k) rfl own0 rfl (fun e => by cases e) hT (by omega) (by omega) hB1.size ?_; intro v1 w1 own1 b1; rw [Nat.zero_add, List.nil_append] at own1; have hs1 : w.heap.size ≤ w1.heap.size := Nat.le_trans hB1.size b1.size)
            | (at_builtin; refine appendInt w1 rfl (.tmp 39) (.tmp 41) rfl x w.heap.size v1 k (zs.take k) rfl rfl own1 (by omega) hs1 ?_; intro v2 w2 own2 b2; have B2 := (hB1.trans b1).trans b2; have hD := (h.below B2).drop (k := k) (Nat.le_refl k); rw [Nat.sub_self] at hD)
            | (at_builtin; refine appendMany w2 rfl (.tmp 43) (.tmp 46) rfl w.heap.size v2 (some (ad.add k)) (k + 1) 0 (c - k) (zs.take k ++ [x]) (zs.drop k) rfl own2 rfl (fun e => by cases e) hD (by omega) (by omega) B2.size ?_; intro v3 w3 own3 b3))
          go_ret
          obtain ⟨R, c', rfl, ho⟩ := ownOf own3
          have hlen := HL.out
          obtain ⟨g1, g2, g3⟩ := putOrder (x := x) (j := k) HS.out (by omega) HJ.out (fun h => by omega)
          exact ⟨R, _, c', rfl, ho.capLe, own_nilOk ho, B2.trans b3, _, ho.has, g1, g2, by rw [putLen, if_neg g3]⟩
        · obtain rfl : c = k := by omega
          clear hkc
          have hB1 := belowNew w (.cells #[] 3)
          have own0 : (w.alloc (.cells #[] 3)).ownsRow w.heap.size 3 1 (.slice (some ⟨w.heap.size, 0, none⟩) 0 0) 0 (vals []) := World.ownsRow_lit w #[] 0 (Nat.le_refl _) (Nat.zero_le _) rfl
          obtain ⟨w0, hw0⟩ : ∃ w0, w.alloc (.cells #[] 3) = w0 := ⟨_, rfl⟩
          rw [hw0] at hB1 own0
          have hT := (h.below hB1).take (k := c) (by omega)
          have HW := Lib.hid hw0
          clear hw0
          go_wp2_with (first
            | (at_builtin; rw [HW.out]; refine appendMany w0 rfl (.tmp 34) (.tmp 37) rfl w.heap.size _ (some ad) 0 c c [] (zs.take c) rfl own0 rfl (fun e => by cases e) hT (by omega) (by omega) hB1.size ?_; intro v1 w1 own1 b1; rw [Nat.zero_add, List.nil_append] at own1; have hs1 : w.heap.size ≤ w1.heap.size := Nat.le_trans hB1.size b1.size)
            | (at_builtin; refine appendInt w1 rfl (.tmp 39) (.tmp 41) rfl x w.heap.size v1 c (zs.take c) rfl rfl own1 (by omega) hs1 ?_; intro v2 w2 own2 b2; have B2 := (hB1.trans b1).trans b2; have hD : Has w2 (some ad) 0 (zs.drop c) := ⟨by rw [List.length_drop, HL.out, Nat.sub_self], fun h => absurd h (by omega)⟩)
            | (at_builtin; refine appendMany w2 rfl (.tmp 43) (.tmp 46) rfl w.heap.size v2 (some ad) (c + 1) 0 0 (zs.take c ++ [x]) (zs.drop c) rfl own2 rfl (fun e => by cases e) hD (by omega) (by omega) B2.size ?_; intro v3 w3 own3 b3))
          go_ret
          obtain ⟨R, c', rfl, ho⟩ := ownOf own3
          have hlen := HL.out
          obtain ⟨g1, g2, g3⟩ := putOrder (x := x) (j := c) HS.out (by omega) HJ.out (fun h => by omega)
          exact ⟨R, _, c', rfl, ho.capLe, own_nilOk ho, B2.trans b3, _, ho.has, g1, g2, by rw [putLen, if_neg g3]⟩
      | none =>
        obtain ⟨rfl, rfl⟩ := hnil rfl
        obtain rfl : zs = [] := List.length_eq_zero_iff.1 h.1
        have hB1 := belowNew w (.cells #[] 3)
        have own0 : (w.alloc (.cells #[] 3)).ownsRow w.heap.size 3 1 (.slice (some ⟨w.heap.size, 0, none⟩) 0 0) 0 (vals []) := World.ownsRow_lit w #[] 0 (Nat.le_refl _) (Nat.zero_le _) rfl
        obtain ⟨w0, hw0⟩ : ∃ w0, w.alloc (.cells #[] 3) = w0 := ⟨_, rfl⟩
        rw [hw0] at hB1 own0
        have hT := h.below hB1
        have HW := Lib.hid hw0
        clear hw0
        go_wp2_with (first
          | (at_builtin; rw [HW.out]; refine appendMany w0 rfl (.tmp 34) (.tmp 37) rfl w.heap.size _ none 0 0 0 [] [] rfl own0 rfl (fun _ => ⟨rfl, rfl⟩) hT (by omega) (by omega) hB1.size ?_; intro v1 w1 own1 b1; rw [Nat.zero_add, List.nil_append] at own1; have hs1 : w.heap.size ≤ w1.heap.size := Nat.le_trans hB1.size b1.size)
          | (at_builtin; refine appendInt w1 rfl (.tmp 39) (.tmp 41) rfl x w.heap.size v1 0 [] rfl rfl own1 (by omega) hs1 ?_; intro v2 w2 own2 b2; have B2 := (hB1.trans b1).trans b2; have hD := h.below B2)
          | (at_builtin; refine appendMany w2 rfl (.tmp 43) (.tmp 46) rfl w.heap.size v2 none (0 + 1) 0 0 ([] ++ [x]) [] rfl own2 rfl (fun _ => ⟨rfl, rfl⟩) hD (by omega) (by omega) B2.size ?_; intro v3 w3 own3 b3))
        go_ret
        obtain ⟨R, c', rfl, ho⟩ := ownOf own3
        have hlen := HL.out
        obtain ⟨g1, _, _⟩ := putOrder (x := x) (j := 0) HS.out (by omega) HJ.out (fun h => by omega)
        exact ⟨R, _, c', rfl, ho.capLe, own_nilOk ho, B2.trans b3, _, ho.has, g1, by simp, by simp [putLen]⟩

/-- A row of n cells in block g, born at B or later, that holds zs. -/
def Row (w : World) (B g n : Nat) (zs : List Int) : Prop := zs.length = n ∧ w.ownsRow B 3 1 (.slice (some ⟨g, 0, none⟩) n n) n (vals zs)
section
variable {w w' : World} {B S g n k : Nat} {zs : List Int}
theorem Row.own (h : Row w B g n zs) : Own w B (some ⟨g, 0, none⟩) n n zs := h
theorem Row.has (h : Row w B g n zs) : Has w (some ⟨g, 0, none⟩) n zs := Own.has h
theorem Row.lt (h : Row w B g n zs) : B ≤ g ∧ g < w.heap.size := h.2.lt g rfl
theorem Row.cell (h : Row w B g n zs) (hk : k < n) : w.cell? ⟨g, k, none⟩ = some (.int .i64 (zs.getD k 0)) := by
  rw [h.2.cellAt k (by omega), vals_at zs k (by rw [h.1]; exact hk)]
theorem Row.free (h : Row w B g n zs) (k : Nat) : w.frozen? ⟨g, k, none⟩ = false := h.2.frozenAt k
theorem vals_set (zs : List Int) (k : Nat) (z : Int) : (vals zs).set k (.int .i64 z) = vals (zs.set k z) := by simp [vals]
theorem Row.put (h : Row w B g n zs) (k : Nat) (z : Int) : Row (w.setCell ⟨g, k, none⟩ (.int .i64 z)) B g n (zs.set k z) :=
  ⟨by rw [List.length_set, h.1], by rw [← vals_set]; exact (h.2.stored k _).1⟩
theorem Row.kept {row : Option Nat} (h : Row w B g n zs) (hg : w.grownBy w' row) (hne : some g ≠ row) : Row w' B g n zs := ⟨h.1, h.2.kept hg (.inr hne)⟩
theorem Row.below (h : Row w B g n zs) (hb : Below w.heap.size w w') : Row w' B g n zs := h.kept (grownOf hb none) (by simp)
theorem Row.drewN (h : Row w B g n zs) (k : Nat) : Row (w.drewN k) B g n zs := h
theorem Row.mono (h : Row w B g n zs) (hS : S ≤ B) : Row w S g n zs := ⟨h.1, h.2.mono hS⟩
/-- A store into another block. -/
theorem Row.other (h : Row w B g n zs) {b : Nat} (hne : g ≠ b) (k : Nat) (u : Value) : Row (w.setCell ⟨b, k, none⟩ u) B g n zs :=
  h.kept (grown_setCell (World.grownBy.refl w (some b)) k u) (by simpa using hne)
theorem mapTo_set (f : Nat → Int) (n k : Nat) (z : Int) : (mapTo f n).set k z = mapTo (fun j => if j = k then z else f j) n := by
  apply List.ext_getElem?
  intro j
  by_cases hj : j < n
  · by_cases e : j = k
    · subst e
      rw [List.getElem?_set_self (by rw [mapTo_length]; exact hj)]
      simp [mapTo, hj]
    · rw [List.getElem?_set_ne (by omega)]
      simp [mapTo, hj, e]
  · rw [List.getElem?_eq_none (by rw [List.length_set, mapTo_length]; omega), List.getElem?_eq_none (by rw [mapTo_length]; omega)]
end
theorem zeroCells (n : Nat) : (madeCells (Value.int .i64 0).cells (n * 1)).toList = vals (mapTo (fun _ => 0) n) := by
  apply List.ext_getElem?
  intro j
  by_cases hj : j < n
  · rw [mapTo_vals _ hj]
    simp [madeCells, hj, Value.cells, Nat.mod_one]
  · rw [List.getElem?_eq_none (by simp [size_madeCells]; omega), List.getElem?_eq_none (by rw [vals_length, mapTo_length]; omega)]

/-- make([]int, n): a row of noughts. -/
theorem makeRow {ops : Array Oper} {rest : List Oper} {o : Oper} {a : Act} {Q : Exit → Act → World → Prop} (w : World) (hg : o.guard = none) (l : Operand) (hop : o.op = Op.makeSlice 23 l l)
    (n : Nat) (hl : a.eval l = .int .i64 (n : Int)) (hn : n ≤ 16777216)
    (hK : ∀ w', Row w' w.heap.size w.heap.size n (mapTo (fun _ => 0) n) → Below w.heap.size w w' → wpList Try.prog ops Q rest (a.put o.dst (.slice (some ⟨w.heap.size, 0, none⟩) n n)) w') :
    wpList Try.prog ops Q (o :: rest) a w := by
  obtain ⟨i0, hi, hz0, hz1, hz2⟩ := info_parts infoInt
  refine wpList_make_full _ hg l l 23 hop w.heap.size 3 i0 (.int .i64 0) 1 Try.underlying23 hi hz0 hz1 .i64 .i64 _ _ n hl hl rfl rfl (by rw [hz2]; omega) (by simp only [maxLen]; omega) (Nat.le_refl _) ?_
  intro w1 hown hgrow
  rw [zeroCells] at hown
  exact hK w1 ⟨mapTo_length _ _, hown⟩ (belowOf hgrow)

section
variable {w w' : World} {A : Option Addr} {B g n c k : Nat} {zs : List Int}
theorem Own.spot (h : Own w B A n c zs) (hn : 0 < n) : ∃ g, A = some ⟨g, 0, none⟩ := by
  obtain ⟨g, cap, hv, _⟩ := h.2.form hn
  injection hv with hA
  exact ⟨g, hA⟩
theorem Own.cellR (h : Own w B (some ⟨g, 0, none⟩) n c zs) (hk : k < n) : w.cell? ⟨g, k, none⟩ = some (.int .i64 (zs.getD k 0)) := by
  rw [h.2.cellAt k (by omega), vals_at zs k (by rw [h.1]; exact hk)]
theorem Own.freeR (h : Own w B (some ⟨g, 0, none⟩) n c zs) (k : Nat) : w.frozen? ⟨g, k, none⟩ = false := h.2.frozenAt k
theorem Own.putR (h : Own w B (some ⟨g, 0, none⟩) n c zs) (k : Nat) (z : Int) : Own (w.setCell ⟨g, k, none⟩ (.int .i64 z)) B (some ⟨g, 0, none⟩) n c (zs.set k z) :=
  ⟨by rw [List.length_set, h.1], by rw [← vals_set]; exact (h.2.stored k _).1⟩
theorem Own.drew (h : Own w B A n c zs) : Own w.drew B A n c zs := h
end

/-- A list of integers that is built in place. -/
theorem litHas {w : World} {vs : Array Value} {zs : List Int} {n : Nat} (hl : zs.length = n) (hv : vs.toList = vals zs) : Has (w.alloc (.cells vs 3)) (some ⟨w.heap.size, 0, none⟩) n zs := by
  refine ⟨hl, fun _ => ⟨_, rfl, by simp, fun j hj => ?_⟩⟩
  have e : (⟨w.heap.size, 0, none⟩ : Addr).add j = ⟨w.heap.size, j, none⟩ := by unfold Addr.add; split <;> simp_all
  rw [e, World.cell?_alloc_at _ _ _ _ rfl, ← vals_at zs j (by omega), ← hv]
  simp

set_option maxHeartbeats 1000000 in
theorem l1Own_all (A : Option Addr) (n c : Nat) (zs : List Int) (w : World) (h : Has w A n zs) (hn : n ≤ 16777216) (hnil : NilOk A n c) :
    Calls Try.prog 137 #[.slice A n c] w fun e w' => ∃ R c', e = .returned (.slice R n c') ∧ Own w' w.heap.size R n c' zs ∧ Below w.heap.size w w' := by
  have hB1 := belowNew w (.cells #[] 3)
  have own0 : (w.alloc (.cells #[] 3)).ownsRow w.heap.size 3 1 (.slice (some ⟨w.heap.size, 0, none⟩) 0 0) 0 (vals []) := World.ownsRow_lit w #[] 0 (Nat.le_refl _) (Nat.zero_le _) rfl
  have hT := h.below hB1
  go_enter Try.func137, Try.ntmps137
  go_wp2_with (at_builtin; refine appendMany _ rfl (.tmp 3) (.tmp 4) rfl w.heap.size _ A 0 n c [] zs rfl own0 rfl hnil hT (by omega) (by omega) hB1.size ?_; intro v1 w1 own1 b1; rw [Nat.zero_add, List.nil_append] at own1)
  go_ret
  obtain ⟨R, c', rfl, ho⟩ := ownOf own1
  exact ⟨R, c', rfl, ho, hB1.trans b1⟩

/-- Of what was in memory nothing turned but in blocks from S to T. -/
structure Span (S T : Nat) (w w' : World) : Prop where
  os : w'.os = w.os
  tape : w'.tape = w.tape
  output : w'.output = w.output
  size : w.heap.size ≤ w'.heap.size
  block : ∀ i, i < w.heap.size → (i < S ∨ T ≤ i) → w'.heap[i]? = w.heap[i]?

section
variable {w w' w'' W wx : World} {S T B n m c : Nat} {A : Option Addr} {zs : List Int}
theorem Span.refl (S T : Nat) (w : World) : Span S T w w := ⟨rfl, rfl, rfl, Nat.le_refl _, fun _ _ _ => rfl⟩
theorem Span.grown {row : Option Nat} (h : Span S T w w') (hg : w'.grownBy w'' row) (hr : ∀ x, row = some x → S ≤ x ∧ x < T) : Span S T w w'' :=
  ⟨hg.os.trans h.os, hg.tape.trans h.tape, hg.output.trans h.output, Nat.le_trans h.size hg.size, fun i hi hs => (hg.block i (Nat.lt_of_lt_of_le hi h.size) (fun e => by have := hr i e.symm; omega)).trans (h.block i hi hs)⟩
theorem Has.span (h : Has w A n zs) (hs : Span S T w w') (ho : Old S A n) : Has w' A n zs := by
  refine ⟨h.1, fun hn => ?_⟩
  have hk : Has w' A n zs := h.keep hs.size (fun ad e hlt => hs.block _ hlt (.inl (ho hn ad e)))
  exact hk.2 hn
theorem Own.span (h : Own w B A n c zs) (hs : Span S T w w') (hT : T ≤ B) : Own w' B A n c zs := by
  refine ⟨h.1, ?_⟩
  rcases h.2 with ⟨h1, h2⟩
  refine ⟨h1, ?_⟩
  rcases h2 with h2 | ⟨g, cap, cur, e, hb, hg, h5, h6, h7, h8⟩
  · exact .inl h2
  · refine .inr ⟨g, cap, cur, e, hb, ?_, h5, h6, h7, h8⟩
    rw [hs.block g (by have := (Array.getElem?_eq_some_iff.1 hg).1; exact this) (.inr (by omega))]
    exact hg
theorem belowSpan (h : Below B W w) (hs : Span S T w w') (hB : B ≤ S) (hw : B ≤ w.heap.size) : Below B W w' :=
  h.trans ⟨hs.os, hs.tape, hs.output, hs.size, fun i hi => hs.block i (by omega) (.inl (by omega))⟩
end

end Go.Proofs.Yteiibneaihdmbaa
