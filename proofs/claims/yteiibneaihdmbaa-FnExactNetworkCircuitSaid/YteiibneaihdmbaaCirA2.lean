/- An append of gates at a step of a region that draws. For at most 33554432 gates. -/
import Derived.Test.YteiibneaihdmbaaCirA1
import Derived.Deep.AppendLies
namespace Go.Proofs.Yteiibneaihdmbaa
open Go.RowKit
set_option maxRecDepth 100000

theorem stepGates {ops : Array Oper} {o : Oper} {a : Act} {K : Act → World → Prop} {Q : Exit → Act → World → Prop} {E : Prop} (W : World) (hgd : o.guard = none) (s x : Operand)
    (ho : o.op = .call { callee := .builtin .append, args := #[s, x], argTypes := #[27, 27] }) (S : Nat) (R : Option Addr) (B : Option Addr) (n cR m c : Nat) (gs hs : List Ga) (hsv : a.eval s = .slice R n cR) (hv : OwnG W S R n cR gs)
    (hx : a.eval x = .slice B m c) (hnil : B = none → m = 0 ∧ c = 0) (hB : HasG W B m hs) (hn : n ≤ 33554432) (hm : m ≤ 33554432) (hS : S ≤ W.heap.size)
    (h : ∀ R' c' w', OwnG w' S R' (n + m) c' (gs ++ hs) → Below S W w' → K (a.put o.dst (.slice R' (n + m) c')) w') :
    if Region.wanted o (yielded ops a.tmps) = true then Oper.wp Try.prog o a W K Q else E := by
  have hw : Region.wanted o (yielded ops a.tmps) = true := by simp [Region.wanted, hgd]
  rw [if_pos hw]
  obtain ⟨i0, hi, hz0, hz1, hz2⟩ := info_parts infoGate
  have hlt := hv.2.lt
  cases B with
  | none =>
    obtain ⟨rfl, rfl⟩ := hnil rfl
    have e : hs = [] := List.length_eq_zero_iff.1 hB.1
    subst e
    have hrun := run_append_owned_none (P := Try.prog) (w := W) S 27 o.type 69 i0 3 Try.underlying27 hi (.slice R n cR) n (gvals gs) hv.2
    unfold Oper.wp
    simp [execOp, ho, resolve, invoke, builtin, hsv, hx, hrun, Result.andThen]
    have h9 : K (a.put o.dst (.slice R n cR)) W := by
      have := h R cR W (by simpa using hv) (Below.refl _ _)
      simpa using this
    exact h9
  | some ad =>
    refine wp_append_own W s x _ ho S 69 i0 (.agg #[.int .i64 0, .int .i64 0, .int .i64 0]) 3 24 Try.underlying27 hi hz0 hz1 hz2 rfl (by decide) (.slice R n cR) n (gvals gs) hsv hv.2 ad m c (gvals hs) hx (by rw [gvals_length, hB.1]) hB.news (gvals_one hs) (by simp only [maxLen]; omega) (by omega) hS ?_
    intro v' w' h2 h3 _
    rw [← gvals_append] at h2
    obtain ⟨R', c', rfl, ho'⟩ := ownGOf h2
    exact h R' c' w' ho' ((Below.refl S W).grown h3 hS fun k hk => (hlt k hk).1)

/-- The same; what else has turned. -/
theorem stepGatesG {ops : Array Oper} {o : Oper} {a : Act} {K : Act → World → Prop} {Q : Exit → Act → World → Prop} {E : Prop} (W : World) (hgd : o.guard = none) (s x : Operand)
    (ho : o.op = .call { callee := .builtin .append, args := #[s, x], argTypes := #[27, 27] }) (S : Nat) (R : Option Addr) (B : Option Addr) (n cR m c : Nat) (gs hs : List Ga) (hsv : a.eval s = .slice R n cR) (hv : OwnG W S R n cR gs)
    (hx : a.eval x = .slice B m c) (hnil : B = none → m = 0 ∧ c = 0) (hB : HasG W B m hs) (hn : n ≤ 33554432) (hm : m ≤ 33554432) (hS : S ≤ W.heap.size)
    (h : ∀ R' c' w', OwnG w' S R' (n + m) c' (gs ++ hs) → Below S W w' → W.grownBy w' (blockOf R) → K (a.put o.dst (.slice R' (n + m) c')) w') :
    if Region.wanted o (yielded ops a.tmps) = true then Oper.wp Try.prog o a W K Q else E := by
  have hw : Region.wanted o (yielded ops a.tmps) = true := by simp [Region.wanted, hgd]
  rw [if_pos hw]
  obtain ⟨i0, hi, hz0, hz1, hz2⟩ := info_parts infoGate
  have hlt := hv.2.lt
  cases B with
  | none =>
    obtain ⟨rfl, rfl⟩ := hnil rfl
    have e : hs = [] := List.length_eq_zero_iff.1 hB.1
    subst e
    have hrun := run_append_owned_none (P := Try.prog) (w := W) S 27 o.type 69 i0 3 Try.underlying27 hi (.slice R n cR) n (gvals gs) hv.2
    unfold Oper.wp
    simp [execOp, ho, resolve, invoke, builtin, hsv, hx, hrun, Result.andThen]
    have h9 : K (a.put o.dst (.slice R n cR)) W := by
      have := h R cR W (by simpa using hv) (Below.refl _ _) (World.grownBy.refl _ _)
      simpa using this
    exact h9
  | some ad =>
    refine wp_append_own W s x _ ho S 69 i0 (.agg #[.int .i64 0, .int .i64 0, .int .i64 0]) 3 24 Try.underlying27 hi hz0 hz1 hz2 rfl (by decide) (.slice R n cR) n (gvals gs) hsv hv.2 ad m c (gvals hs) hx (by rw [gvals_length, hB.1]) hB.news (gvals_one hs) (by simp only [maxLen]; omega) (by omega) hS ?_
    intro v' w' h2 h3 _
    rw [← gvals_append] at h2
    obtain ⟨R', c', rfl, ho'⟩ := ownGOf h2
    exact h R' c' w' ho' ((Below.refl S W).grown h3 hS fun k hk => (hlt k hk).1) (by rw [ownBlockOf] at h3; exact h3)

theorem litG (w : World) : OwnG (w.alloc (.cells #[] 69)) w.heap.size (some ⟨w.heap.size, 0, none⟩) 0 0 [] := ⟨rfl, World.ownsRow_lit w #[] 0 (Nat.le_refl _) (Nat.zero_le _) rfl⟩

end Go.Proofs.Yteiibneaihdmbaa
