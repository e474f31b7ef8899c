/- The model's values of wires. For valid circuits with as many bits as inputs. -/
import Derived.Test.YtaohgbkhmgfnhaaDoorCirM2
import Derived.Test.YtaohgbkhmgfnhaaDoorCirG1
import Derived.Test.YtaohgbkhmgfnhaaDoorLists
import Derived.Deep.AppendLies
import Derived.Deep.RegionLaw
import Derived.Deep.DeepCutAuto
namespace Go.Proofs.YtaohgbkhmgfnhaaDoor
open Go.RowKit
set_option maxRecDepth 100000

/-- An append of one number at a step of a region that draws. -/
theorem stepInt {ops : Array Oper} {o : Oper} {a : Act} {K : Act → World → Prop} {Q : Exit → Act → World → Prop} {E : Prop} (W : World) (hgd : o.guard = none) (s x : Operand)
    (ho : o.op = .call { callee := .builtin .append, args := #[s, x], argTypes := #[23, 23] }) (z : Int) (B : Nat) (v : Value) (n : Nat) (ys : List Int) (q : Nat) (hs : a.eval s = v)
    (hx : a.eval x = .slice (some ⟨q, 0, none⟩) 1 1) (hc : W.cell? ⟨q, 0, none⟩ = some (.int .i64 z)) (hown : W.ownsRow B 3 1 v n (vals ys)) (hn : n ≤ 16777216) (hB : B ≤ W.heap.size)
    (h : ∀ g cap w', Own w' B (some ⟨g, 0, none⟩) (n + 1) cap (ys ++ [z]) → Below B W w' → K (a.put o.dst (.slice (some ⟨g, 0, none⟩) (n + 1) cap)) w') :
    if Region.wanted o (yielded ops a.tmps) = true then Oper.wp Tryd.prog o a W K Q else E := by
  obtain ⟨i0, hi, hz0, hz1, hz2⟩ := info_parts infoInt
  have hlt := hown.lt
  refine step_append_lies W hgd s x _ ho B 3 i0 (.int .i64 0) 1 8 Tryd.underlying23 hi hz0 hz1 hz2 rfl (by decide) v n (vals ys) hs hown ⟨q, 0, none⟩ 1 1 [.int .i64 z] hx (by simp) ?_ (by simp [Value.oneCell']) (by omega) (by simp only [maxLen]; omega) (by omega) hB _ rfl ?_
  · intro j u hj
    match j, hj with
    | 0, hj => simp at hj; subst hj; simpa [Addr.add] using hc
  · intro g cap w' h1 h2 _ _
    have hl : ys.length = n := by have := h1.1; have h0 := hown.1; rw [vals_length] at h0; omega
    exact h g cap w' ⟨by simp [hl], by rw [vals_append]; exact h1⟩ ((Below.refl B W).grown h2 hB (fun k hk => (hlt k hk).1))

end Go.Proofs.YtaohgbkhmgfnhaaDoor
