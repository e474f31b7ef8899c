/- Making a row of integers, appending one integer to a row of the call's own, and lists that are given cell by cell. -/
import Derived.Test.YteiibneaihdmbaaBase
namespace Go.Proofs.Yteiibneaihdmbaa
open Go.RowKit
set_option maxRecDepth 100000

/-- The list of the first k values of f. -/
def mapTo (f : Nat → Int) (k : Nat) : List Int := (List.range k).map f
theorem mapTo_length (f : Nat → Int) (k : Nat) : (mapTo f k).length = k := by simp [mapTo]
theorem mapTo_succ (f : Nat → Int) (k : Nat) : mapTo f (k + 1) = mapTo f k ++ [f k] := by simp [mapTo, List.range_succ]
theorem mapTo_at (f : Nat → Int) {n k : Nat} (h : k < n) : (mapTo f n).getD k 0 = f k := by simp [mapTo, List.getD, h]
theorem mapTo_vals (f : Nat → Int) {n k : Nat} (h : k < n) : (vals (mapTo f n))[k]? = some (.int .i64 (f k)) := by
  rw [vals_at _ _ (by rw [mapTo_length]; exact h), mapTo_at f h]
theorem mapTo_eq {f g : Nat → Int} {n : Nat} (h : ∀ k, k < n → f k = g k) : mapTo f n = mapTo g n := by
  unfold mapTo
  exact List.map_congr_left fun k hk => h k (List.mem_range.1 hk)
theorem list_eq_mapTo (zs : List Int) : zs = mapTo (fun k => zs.getD k 0) zs.length := by
  apply List.ext_getElem?
  intro k
  by_cases h : k < zs.length
  · simp [mapTo, h]
  · rw [List.getElem?_eq_none (by omega), List.getElem?_eq_none (by rw [mapTo_length]; omega)]
theorem vals_append (xs ys : List Int) : vals (xs ++ ys) = vals xs ++ vals ys := by simp [vals]

theorem sliceOf {w : World} {B e : Nat} {v : Value} {n : Nat} {xs : List Value} (h : w.ownsRow B e 1 v n xs) : ∃ R c, v = .slice R n c := by
  rcases h.2 with ⟨hv, h0⟩ | ⟨g, cap, cur, hv, _⟩
  · exact ⟨none, 0, by rw [hv, h0]⟩
  · exact ⟨_, _, hv⟩

/-- A row that was appended to, as an answer. -/
theorem ownOf {w : World} {B : Nat} {v : Value} {n : Nat} {zs : List Int} (h : w.ownsRow B 3 1 v n (vals zs)) : ∃ R c, v = .slice R n c ∧ Own w B R n c zs := by
  obtain ⟨R, c, rfl⟩ := sliceOf h
  exact ⟨R, c, rfl, by have := h.1; rw [vals_length] at this; omega, h⟩

/-- A row of the call's own stays while a block below its base is written. -/
theorem ownStays {w w' : World} {B e g n : Nat} {v : Value} {xs : List Value} (h : w.ownsRow B e 1 v n xs) (hg : w.grownBy w' (some g)) (hlt : g < B) : w'.ownsRow B e 1 v n xs := by
  refine h.kept hg ?_
  by_cases hb : v.ownBlock = none
  · exact .inl hb
  · exact .inr (fun e => by have := (h.lt g e).1; omega)
theorem grownThen {a b c : World} {row : Option Nat} (h : a.grownBy b row) (hb : Below a.heap.size b c) : a.grownBy c row :=
  ⟨hb.os.trans h.os, hb.tape.trans h.tape, hb.output.trans h.output, Nat.le_trans h.size hb.size, fun k hk hne => (hb.block k hk).trans (h.block k hk hne)⟩

/-- make([]int, n): the walk goes on in a world in which n cells are the call's own. -/
theorem makeInts {ops : Array Oper} {rest : List Oper} {o : Oper} {a : Act} {Q : Exit → Act → World → Prop} (w : World) (hg : o.guard = none) (l : Operand) (hop : o.op = Op.makeSlice 23 l l)
    (n : Nat) (hl : a.eval l = .int .i64 (n : Int)) (hn : n ≤ 16777216)
    (hK : ∀ w', (∀ ys, Filled w' w.heap.size 3 w.heap.size n ys (fun j => j < 0)) → Below w.heap.size w w' → wpList Try.prog ops Q rest (a.put o.dst (.slice (some ⟨w.heap.size, 0, none⟩) n n)) w') :
    wpList Try.prog ops Q (o :: rest) a w := by
  obtain ⟨i0, hi, hz0, hz1, hz2⟩ := info_parts infoInt
  refine wpList_make_full _ hg l l 23 hop w.heap.size 3 i0 (.int .i64 0) 1 Try.underlying23 hi hz0 hz1 .i64 .i64 _ _ n hl hl rfl rfl (by rw [hz2]; omega) (by simp only [maxLen]; omega) (Nat.le_refl _) ?_
  intro w1 hown hgrow
  exact hK w1 (fun ys => Filled.start hown _ (by intro j _; omega)) (belowOf hgrow)

/-- append(out, z): the walk goes on in a world in which the row holds one integer more. -/
theorem appendInt {ops : Array Oper} {rest : List Oper} {o : Oper} {a : Act} {Q : Exit → Act → World → Prop} (w : World) (hgd : o.guard = none) (s x : Operand)
    (ho : o.op = .call { callee := .builtin .append, args := #[s, x], argTypes := #[23, 23] }) (z : Int) (B : Nat) (v : Value) (n : Nat) (ys : List Int) (hs : a.eval s = v)
    (hx : a.eval x = .slice (some ⟨w.heap.size, 0, none⟩) 1 1) (hown : w.ownsRow B 3 1 v n (vals ys)) (hn : n ≤ 16777216) (hB : B ≤ w.heap.size)
    (h : ∀ v' w', w'.ownsRow B 3 1 v' (n + 1) (vals (ys ++ [z])) → Below B w w' → wpList Try.prog ops Q rest (a.put o.dst v') w') :
    wpList Try.prog ops Q (o :: rest) a (w.alloc (.cells #[.int .i64 z] 3)) := by
  obtain ⟨i0, hi, hz0, hz1, hz2⟩ := info_parts infoInt
  have hlt := hown.lt
  refine wpList_append_own _ hgd s x _ ho B 3 i0 (.int .i64 0) 1 8 Try.underlying23 hi hz0 hz1 hz2 rfl (by decide) v n (vals ys) hs (hown.alloc _) ⟨w.heap.size, 0, none⟩ 1 1 [.int .i64 z] hx rfl ?_ ?_ (by simp only [maxLen]; omega) (by omega) (by simp; omega) ?_
  · intro j u hj
    match j, hj with
    | 0, hj => simp at hj; subst hj; simp [Addr.add]
  · intro u hu; simp at hu; subst hu; rfl
  · intro v' w' h1 h2 _
    refine h v' w' (by rw [vals_append]; exact h1) ((((Below.refl B w).alloc hB _)).grown h2 (by simp; omega) (fun k hk => (hlt k hk).1))

end Go.Proofs.Yteiibneaihdmbaa
