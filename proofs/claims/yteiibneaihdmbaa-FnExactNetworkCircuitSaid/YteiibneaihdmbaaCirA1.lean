/- Appends of gates to a row of the call's own. For at most 33554432 gates. -/
import Derived.Test.YteiibneaihdmbaaCirAll
import Derived.Test.YteiibneaihdmbaaLists
namespace Go.Proofs.Yteiibneaihdmbaa
open Go.RowKit
set_option maxRecDepth 100000

theorem HasG.news {w : World} {ad : Addr} {m : Nat} {gs : List Ga} (h : HasG w (some ad) m gs) : ∀ (j : Nat) (u : Value), (gvals gs)[j]? = some u → w.cell? (ad.add j) = some u := by
  intro j u hj
  have hl := gvals_length gs
  have hlt : j < gs.length * 3 := by
    have := (List.getElem?_eq_some_iff.1 hj).1
    omega
  obtain ⟨ad', e, _, hc⟩ := h.2 (by have := h.1; omega)
  obtain rfl := Option.some.inj e
  obtain ⟨k, r, hk, hr, rfl⟩ : ∃ k r, k < gs.length ∧ r < 3 ∧ j = k * 3 + r := ⟨j / 3, j % 3, by omega, by omega, by omega⟩
  obtain ⟨h1, h2, h3⟩ := hc k (by rw [← h.1]; exact hk)
  obtain ⟨g1, g2, g3⟩ := gvals_cell gs k hk
  rcases (by omega : r = 0 ∨ r = 1 ∨ r = 2) with rfl | rfl | rfl
  · rw [Nat.add_zero] at hj ⊢
    rw [g1] at hj
    rw [h1, ← hj]
  · rw [g2] at hj
    rw [← addAdd, h2, ← hj]
  · rw [g3] at hj
    rw [← addAdd, h3, ← hj]

theorem ownGOf {w : World} {B : Nat} {v : Value} {n : Nat} {gs : List Ga} (h : w.ownsRow B 69 3 v n (gvals gs)) : ∃ R c, v = .slice R n c ∧ OwnG w B R n c gs := by
  have hl : gs.length = n := by have := h.1; rw [gvals_length] at this; omega
  rcases h.2 with ⟨rfl, rfl⟩ | ⟨g, cap, cur, rfl, _⟩
  · exact ⟨none, 0, rfl, hl, h⟩
  · exact ⟨_, cap, rfl, hl, h⟩

theorem appendGates {ops : Array Oper} {rest : List Oper} {o : Oper} {a : Act} {Q : Exit → Act → World → Prop} (w : World) (hgd : o.guard = none) (s x : Operand)
    (ho : o.op = .call { callee := .builtin .append, args := #[s, x], argTypes := #[27, 27] }) (S : Nat) (v : Value) (B : Option Addr) (n m c : Nat) (gs hs : List Ga) (hsv : a.eval s = v) (hv : w.ownsRow S 69 3 v n (gvals gs))
    (hx : a.eval x = .slice B m c) (hnil : B = none → m = 0 ∧ c = 0) (hB : HasG w B m hs) (hn : n ≤ 33554432) (hm : m ≤ 33554432) (hS : S ≤ w.heap.size)
    (h : ∀ v' w', w'.ownsRow S 69 3 v' (n + m) (gvals (gs ++ hs)) → Below S w w' → w.grownBy w' v.ownBlock → wpList Try.prog ops Q rest (a.put o.dst v') w') :
    wpList Try.prog ops Q (o :: rest) a w := by
  obtain ⟨i0, hi, hz0, hz1, hz2⟩ := info_parts infoGate
  cases B with
  | none =>
    obtain ⟨rfl, rfl⟩ := hnil rfl
    have e : hs = [] := List.length_eq_zero_iff.1 hB.1
    subst e
    refine wpList_append_own_none hgd s x _ ho S 69 i0 3 Try.underlying27 hi v n (gvals gs) hsv hv hx ?_
    have := h v w (by simpa using hv) (Below.refl _ _) (World.grownBy.refl _ _)
    exact this
  | some ad =>
    refine wpList_append_own _ hgd s x _ ho S 69 i0 (.agg #[.int .i64 0, .int .i64 0, .int .i64 0]) 3 24 Try.underlying27 hi hz0 hz1 hz2 rfl (by decide) v n (gvals gs) hsv hv ad m c (gvals hs) hx (by rw [gvals_length, hB.1]) hB.news (gvals_one hs) (by simp only [maxLen]; omega) (by omega) hS ?_
    intro v' w' h2 h3 _
    rw [← gvals_append] at h2
    have hlt := hv.lt
    exact h v' w' h2 ((Below.refl S w).grown h3 hS fun k hk => (hlt k hk).1) h3

/-- One gate is appended. -/
theorem appendGate {ops : Array Oper} {rest : List Oper} {o : Oper} {a : Act} {Q : Exit → Act → World → Prop} (w : World) (hgd : o.guard = none) (s x : Operand)
    (ho : o.op = .call { callee := .builtin .append, args := #[s, x], argTypes := #[27, 27] }) (p q r : Int) (S : Nat) (v : Value) (n : Nat) (gs : List Ga) (hsv : a.eval s = v)
    (hx : a.eval x = .slice (some ⟨w.heap.size, 0, none⟩) 1 1) (hv : w.ownsRow S 69 3 v n (gvals gs)) (hn : n ≤ 33554432) (hS : S ≤ w.heap.size)
    (h : ∀ v' w', w'.ownsRow S 69 3 v' (n + 1) (gvals (gs ++ [(p, q, r)])) → Below S w w' → w.grownBy w' v.ownBlock → wpList Try.prog ops Q rest (a.put o.dst v') w') :
    wpList Try.prog ops Q (o :: rest) a (w.alloc (.cells #[.int .i64 p, .int .i64 q, .int .i64 r] 69)) := by
  have b := belowNew w (.cells #[.int .i64 p, .int .i64 q, .int .i64 r] 69)
  have y := Blk.new w #[.int .i64 p, .int .i64 q, .int .i64 r] 69
  refine appendGates _ hgd s x ho S v (some ⟨w.heap.size, 0, none⟩) n 1 1 gs [(p, q, r)] hsv (hv.alloc _) hx (fun e => by cases e) ⟨rfl, fun _ => ⟨_, rfl, y.lt, fun k hk => ?_⟩⟩ hn (by omega) (Nat.le_trans hS b.size) fun v' w' h1 h2 h3 => h v' w' h1 (((Below.refl S w).alloc hS _).trans h2) ((grownOf b _).trans h3)
  obtain rfl : k = 0 := by omega
  refine ⟨?_, ?_, ?_⟩
  · simp [Addr.add]
  · simp [Addr.add]
  · simp [Addr.add]

theorem ownBlockOf (R : Option Addr) (n c : Nat) : (Value.slice R n c).ownBlock = blockOf R := by cases R <;> rfl

/-- One number is appended; what else has turned. -/
theorem appendIntG {ops : Array Oper} {rest : List Oper} {o : Oper} {a : Act} {Q : Exit → Act → World → Prop} (w : World) (hgd : o.guard = none) (s x : Operand)
    (ho : o.op = .call { callee := .builtin .append, args := #[s, x], argTypes := #[23, 23] }) (z : Int) (B : Nat) (v : Value) (n : Nat) (ys : List Int) (hs : a.eval s = v)
    (hx : a.eval x = .slice (some ⟨w.heap.size, 0, none⟩) 1 1) (hown : w.ownsRow B 3 1 v n (vals ys)) (hn : n ≤ 16777216) (hB : B ≤ w.heap.size)
    (h : ∀ v' w', w'.ownsRow B 3 1 v' (n + 1) (vals (ys ++ [z])) → Below B w w' → w.grownBy w' v.ownBlock → wpList Try.prog ops Q rest (a.put o.dst v') w') :
    wpList Try.prog ops Q (o :: rest) a (w.alloc (.cells #[.int .i64 z] 3)) := by
  obtain ⟨i0, hi, hz0, hz1, hz2⟩ := info_parts infoInt
  have hlt := hown.lt
  have b := belowNew w (.cells #[.int .i64 z] 3)
  refine wpList_append_own _ hgd s x _ ho B 3 i0 (.int .i64 0) 1 8 Try.underlying23 hi hz0 hz1 hz2 rfl (by decide) v n (vals ys) hs (hown.alloc _) ⟨w.heap.size, 0, none⟩ 1 1 [.int .i64 z] hx rfl ?_ ?_ (by simp only [maxLen]; omega) (by omega) (by simp; omega) ?_
  · intro j u hj
    match j, hj with
    | 0, hj => simp at hj; subst hj; simp [Addr.add]
  · intro u hu; simp at hu; subst hu; rfl
  · intro v' w' h1 h2 _
    refine h v' w' (by rw [vals_append]; exact h1) ((((Below.refl B w).alloc hB _)).grown h2 (by simp; omega) (fun k hk => (hlt k hk).1)) ((grownOf b _).trans h2)

/-- Two rows, one of gates and one of numbers: an append to one leaves the other. -/
theorem Own.apartG {w w' : World} {B B' n c m d : Nat} {A O : Option Addr} {gs : List Ga} {zs : List Int} (h : Own w B' O m d zs) (hG : OwnG w B A n c gs) (hg : w.grownBy w' (blockOf A)) : Own w' B' O m d zs :=
  h.kept hg (fun ad e e2 => by
    cases hA : A with
    | none => rw [hA] at e2; simp [blockOf] at e2
    | some a => rw [hA] at e2; simp [blockOf] at e2; exact ownApart hG h a ad hA e e2.symm)
theorem OwnG.apartI {w w' : World} {B B' n c m d : Nat} {A O : Option Addr} {gs : List Ga} {zs : List Int} (hG : OwnG w B A n c gs) (h : Own w B' O m d zs) (hg : w.grownBy w' (blockOf O)) : OwnG w' B A n c gs :=
  hG.kept hg (fun ad e e2 => by
    cases hO : O with
    | none => rw [hO] at e2; simp [blockOf] at e2
    | some a => rw [hO] at e2; simp [blockOf] at e2; exact ownApart hG h ad a e hO e2)

end Go.Proofs.Yteiibneaihdmbaa
