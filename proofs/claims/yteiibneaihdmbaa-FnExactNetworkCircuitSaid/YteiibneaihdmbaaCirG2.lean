/- The model's values of wires. For valid circuits with as many bits as inputs. -/
import Derived.Test.YteiibneaihdmbaaCirM2
import Derived.Test.YteiibneaihdmbaaCirG1
import Derived.Test.YteiibneaihdmbaaLists
import Derived.Deep.AppendLies
import Derived.Deep.RegionLaw
import Derived.Deep.DeepCutAuto
namespace Go.Proofs.Yteiibneaihdmbaa
open Go.RowKit
set_option maxRecDepth 100000

/-- An append of one number at a step of a region that draws. -/
theorem stepInt {ops : Array Oper} {o : Oper} {a : Act} {K : Act → World → Prop} {Q : Exit → Act → World → Prop} {E : Prop} (W : World) (hgd : o.guard = none) (s x : Operand)
    (ho : o.op = .call { callee := .builtin .append, args := #[s, x], argTypes := #[23, 23] }) (z : Int) (B : Nat) (v : Value) (n : Nat) (ys : List Int) (q : Nat) (hs : a.eval s = v)
    (hx : a.eval x = .slice (some ⟨q, 0, none⟩) 1 1) (hc : W.cell? ⟨q, 0, none⟩ = some (.int .i64 z)) (hown : W.ownsRow B 3 1 v n (vals ys)) (hn : n ≤ 16777216) (hB : B ≤ W.heap.size)
    (h : ∀ g cap w', Own w' B (some ⟨g, 0, none⟩) (n + 1) cap (ys ++ [z]) → Below B W w' → K (a.put o.dst (.slice (some ⟨g, 0, none⟩) (n + 1) cap)) w') :
    if Region.wanted o (yielded ops a.tmps) = true then Oper.wp Try.prog o a W K Q else E := by
  obtain ⟨i0, hi, hz0, hz1, hz2⟩ := info_parts infoInt
  have hlt := hown.lt
  refine step_append_lies W hgd s x _ ho B 3 i0 (.int .i64 0) 1 8 Try.underlying23 hi hz0 hz1 hz2 rfl (by decide) v n (vals ys) hs hown ⟨q, 0, none⟩ 1 1 [.int .i64 z] hx (by simp) ?_ (by simp [Value.oneCell']) (by omega) (by simp only [maxLen]; omega) (by omega) hB _ rfl ?_
  · intro j u hj
    match j, hj with
    | 0, hj => simp at hj; subst hj; simpa [Addr.add] using hc
  · intro g cap w' h1 h2 _ _
    have hl : ys.length = n := by have := h1.1; have h0 := hown.1; rw [vals_length] at h0; omega
    exact h g cap w' ⟨by simp [hl], by rw [vals_append]; exact h1⟩ ((Below.refl B W).grown h2 hB (fun k hk => (hlt k hk).1))

set_option maxHeartbeats 1000000 in
theorem ciJoin_any (A : Option Addr) (n c : Nat) (xs : List Int) (B : Option Addr) (m d : Nat) (ys : List Int) (w : World) (hx : Has w A n xs) (hn : n ≤ 16777216) (hnil : NilOk A n c) (hy : Has w B m ys) (hm : m ≤ 16777216) (hnil2 : NilOk B m d) :
    Calls Try.prog 108 #[.slice A n c, .slice B m d] w fun e w' => ∃ R c', e = .returned (.slice R (n + m) c') ∧ Own w' w.heap.size R (n + m) c' (xs ++ ys) ∧ Below w.heap.size w w' := by
  go_enter Try.func108, Try.ntmps108
  go_wp2_with fail
  refine (l1Own_all A n c xs w hx hn hnil).mono ?_
  rintro e w1 ⟨R1, c1, rfl, o1, b1⟩
  have hy1 := hy.below b1
  have own1 := o1.2
  go_wp2_with (at_builtin; refine appendMany w1 rfl (.tmp 6) (.tmp 7) rfl w.heap.size _ B n m d xs ys rfl own1 rfl hnil2 hy1 (by omega) (by omega) b1.size ?_; intro v2 w2 own2 b2)
  obtain ⟨R, c', rfl, ho⟩ := ownOf own2
  go_ret
  exact ⟨R, c', rfl, ho, b1.trans b2⟩

set_option maxHeartbeats 1000000 in
theorem ciPick_any (A : Option Addr) (n c : Nat) (xs : List Int) (B : Option Addr) (m d : Nat) (ys : List Int) (w : World) (hx : Has w A n xs) (_hn : n ≤ 16777216) (hy : Has w B m ys) (hm : m ≤ 16777216) (hin : ∀ k, k < ys.length → 0 ≤ ys.getD k 0 ∧ ys.getD k 0 < (n : Int)) :
    Calls Try.prog 63 #[.slice A n c, .slice B m d] w fun e w' => ∃ R c', e = .returned (.slice R m c') ∧ Own w' w.heap.size R m c' (pickL xs ys) ∧ Below w.heap.size w w' := by
  have hyl := hy.1
  have HI := Lib.hid hin
  have HYL := Lib.hid hyl
  clear hin hyl
  go_enter Try.func63, Try.ntmps63
  go_wp2_with fail
  go_loopw [5, 10] (fun v iv wr => ∃ k : Nat, k ≤ m ∧ iv = .int .i64 k ∧ wr.ownsRow w.heap.size 3 1 v k (vals ((pickL xs ys).take k)) ∧ Below w.heap.size w wr) (fun _ iv _ => m - (intOf iv).toNat)
  case atStart => exact ⟨0, Nat.zero_le _, rfl, World.ownsRow_nil _ _ _ _, Below.refl _ _⟩
  case round =>
    obtain ⟨k, hk, rfl, ho, bk⟩ := hrel
    have hpl : (pickL xs ys).length = m := by rw [pickL, List.length_map, HYL.out]
    by_cases hlt : k < m
    · obtain ⟨bd, i, rfl, hci, HIx⟩ := (hy.below bk).elem hlt
      obtain ⟨i0, i1⟩ : 0 ≤ i ∧ i < (n : Int) := by rw [HIx.out]; exact HI.out k (by rw [HYL.out]; exact hlt)
      obtain ⟨j, rfl⟩ : ∃ j : Nat, i = (j : Int) := ⟨i.toNat, by omega⟩
      obtain ⟨ad, z, rfl, hcz, HZ⟩ := (hx.below bk).elem (show j < n by omega)
      have hz : (pickL xs ys).take k ++ [z] = (pickL xs ys).take (k + 1) := by
        rw [List.take_add_one, List.getElem?_eq_getElem (by omega)]
        have : (pickL xs ys)[k]'(by omega) = z := by
          simp only [pickL, List.getElem_map]
          have e : ys[k]'(by have := HYL.out; omega) = (j : Int) := by rw [HIx.out]; simp [List.getD, List.getElem?_eq_getElem (show k < ys.length by have := HYL.out; omega)]
          rw [e, HZ.out]
          rfl
        rw [this]
        rfl
      have HZZ := Lib.hid hz
      have hs0 := bk.size
      have k0 : (0 : Int) ≤ (k : Int) := by omega
      have k1 : (k : Int) < (m : Int) := by omega
      clear hz hpl
      go_wp2_with (at_builtin; refine appendInt wr rfl (.tmp 14) (.tmp 19) rfl z w.heap.size _ k _ rfl rfl ho (by omega) hs0 ?_; intro v2 w2 own2 b2)
      rw [HZZ.out] at own2
      go_roundw
      case rel => exact ⟨k + 1, by omega, by go_num, own2, bk.trans b2⟩
      case measure => simp [intOf]; omega
    · obtain rfl : k = m := by omega
      rw [List.take_of_length_le (by omega)] at ho
      obtain ⟨R, c', rfl, ho'⟩ := ownOf ho
      go_wp2_with fail
      go_ret
      exact ⟨R, c', rfl, ho', bk⟩

end Go.Proofs.Yteiibneaihdmbaa
