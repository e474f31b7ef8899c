/- Lists of strings that the call owns: a new one, one string appended, put together. -/
import Derived.Test.YtaohgbkhmgfnhaaDoorCirL4
import Derived.Test.YtaohgbkhmgfnhaaDoorCirI9
import Derived.Deep.AppendLies
import Derived.Laws.OwnMore
namespace Go.Proofs.YtaohgbkhmgfnhaaDoor
open Go.RowKit Go.Shelf
set_option maxRecDepth 100000

theorem infoStr : (Tryd.prog.info? 9).map (fun i => (i.zero, i.size, i.bytes)) = some (some (.string ByteArray.empty), 1, 16) := by kernel_rfl

/-- v is a slice of n strings that the call owns, the list ts. -/
def Strs (w : World) (B : Nat) (v : Value) (n : Nat) (ts : List ByteArray) : Prop := ts.length = n ∧ w.ownsRow B 9 1 v n (ts.map Value.string)
theorem Strs.below {w w' : World} {B : Nat} {v : Value} {n : Nat} {ts : List ByteArray} (h : Strs w B v n ts) (hb : Below w.heap.size w w') : Strs w' B v n ts :=
  ⟨h.1, h.2.kept (row := none) ⟨hb.os, hb.tape, hb.output, hb.size, fun k hk _ => hb.block k hk⟩ (by
    cases hv : v.ownBlock with
    | none => exact .inl rfl
    | some g => exact .inr (by simp))⟩
theorem Strs.one (w : World) (B : Nat) (t : ByteArray) (hB : B ≤ w.heap.size) : Strs (w.alloc (.cells #[.string t] 9)) B (.slice (some ⟨w.heap.size, 0, none⟩) 1 1) 1 [t] :=
  ⟨rfl, World.ownsRow_lit w #[.string t] 1 hB (by decide) rfl⟩

/-- All bytes, one string behind the other. -/
def bytesOf (ts : List ByteArray) : List UInt8 := (ts.map (·.data.toList)).flatten
theorem bytesOf_add (ts : List ByteArray) (t : ByteArray) : bytesOf (ts ++ [t]) = bytesOf ts ++ t.data.toList := by simp [bytesOf]
theorem bytesOf_one (t : ByteArray) : bytesOf [t] = t.data.toList := by simp [bytesOf]
theorem data_length (t : ByteArray) : t.data.toList.length = t.size := rfl

theorem stepStr {ops : Array Oper} {o : Oper} {a : Act} {K : Act → World → Prop} {Q : Exit → Act → World → Prop} {E : Prop} (W : World) (hgd : o.guard = none) (s x : Operand)
    (ho : o.op = .call { callee := .builtin .append, args := #[s, x], argTypes := #[42, 42] }) (t : ByteArray) (B : Nat) (v : Value) (n : Nat) (ts : List ByteArray) (q : Nat) (hs : a.eval s = v)
    (hx : a.eval x = .slice (some ⟨q, 0, none⟩) 1 1) (hc : W.cell? ⟨q, 0, none⟩ = some (.string t)) (hown : Strs W B v n ts) (hn : n ≤ 16777216) (hB : B ≤ W.heap.size)
    (h : ∀ v' w', Strs w' B v' (n + 1) (ts ++ [t]) → Below B W w' → W.grownBy w' v.ownBlock → K (a.put o.dst v') w') :
    if Region.wanted o (yielded ops a.tmps) = true then Oper.wp Tryd.prog o a W K Q else E := by
  obtain ⟨i0, hi, hz0, hz1, hz2⟩ := info_parts infoStr
  have hlt := hown.2.lt
  refine step_append_lies W hgd s x _ ho B 9 i0 (.string ByteArray.empty) 1 16 Tryd.underlying42 hi hz0 hz1 hz2 rfl (by decide) v n (ts.map Value.string) hs hown.2 ⟨q, 0, none⟩ 1 1 [.string t] hx (by simp) ?_ (by simp [Value.oneCell']) (by omega) (by simp only [maxLen]; omega) (by omega) hB _ rfl ?_
  · intro j u hj
    match j, hj with
    | 0, hj => simp at hj; subst hj; simpa [Addr.add] using hc
  · intro g cap w' h1 h2 _ _
    exact h _ w' ⟨by simp [hown.1], by rw [List.map_append]; exact h1⟩ ((Below.refl B W).grown h2 hB (fun k hk => (hlt k hk).1)) h2

theorem strOnto {ops : Array Oper} {rest : List Oper} {o : Oper} {a : Act} {Q : Exit → Act → World → Prop} (W : World) (hgd : o.guard = none) (s x : Operand)
    (ho : o.op = .call { callee := .builtin .append, args := #[s, x], argTypes := #[42, 42] }) (t : ByteArray) (B : Nat) (v : Value) (n : Nat) (ts : List ByteArray) (q : Nat) (hs : a.eval s = v)
    (hx : a.eval x = .slice (some ⟨q, 0, none⟩) 1 1) (hc : W.cell? ⟨q, 0, none⟩ = some (.string t)) (hown : Strs W B v n ts) (hn : n ≤ 16777216) (hB : B ≤ W.heap.size)
    (h : ∀ v' w', Strs w' B v' (n + 1) (ts ++ [t]) → Below B W w' → wpList Tryd.prog ops Q rest (a.put o.dst v') w') :
    wpList Tryd.prog ops Q (o :: rest) a W := by
  obtain ⟨i0, hi, hz0, hz1, hz2⟩ := info_parts infoStr
  have hlt := hown.2.lt
  refine wpList_append_own W hgd s x _ ho B 9 i0 (.string ByteArray.empty) 1 16 Tryd.underlying42 hi hz0 hz1 hz2 rfl (by decide) v n (ts.map Value.string) hs hown.2 ⟨q, 0, none⟩ 1 1 [.string t] hx (by simp) ?_ (by simp [Value.oneCell']) (by simp only [maxLen]; omega) (by omega) hB ?_
  · intro j u hj
    match j, hj with
    | 0, hj => simp at hj; subst hj; simpa [Addr.add] using hc
  · intro v' w' h1 h2 _
    exact h _ w' ⟨by simp [hown.1], by rw [List.map_append]; exact h1⟩ ((Below.refl B W).grown h2 hB (fun k hk => (hlt k hk).1))

/-- What strings.Join asks of the cells. -/
theorem Strs.joins {w : World} {B n : Nat} {v : Value} {ts : List ByteArray} (h : Strs w B v n ts) (hn : 0 < n) :
    ∃ g c, v = .slice (some ⟨g, 0, none⟩) n c ∧ g < w.heap.size ∧ n ≤ c ∧ ∀ (j : Nat) x, ts[j]? = some x → w.cell? ⟨g, 0 + j, none⟩ = some (.string x) := by
  obtain ⟨h1, h2⟩ := h
  have hlt := h2.lt
  obtain ⟨hl, h0 | ⟨g, cap, cur, rfl, hb, hh, hnc, _, _, _⟩⟩ := id h2
  · obtain ⟨rfl, rfl⟩ := h0
    have : (ts.map Value.string).length = 0 * 1 := hl
    simp at this
    subst this
    simp at h1
    omega
  · refine ⟨g, cap, rfl, (hlt g rfl).2, hnc, fun j x hj => ?_⟩
    have hjl : j < ts.length := (List.getElem?_eq_some_iff.1 hj).1
    rw [Nat.zero_add, h2.cellAt j (by omega)]
    simp [hj]

end Go.Proofs.YtaohgbkhmgfnhaaDoor
