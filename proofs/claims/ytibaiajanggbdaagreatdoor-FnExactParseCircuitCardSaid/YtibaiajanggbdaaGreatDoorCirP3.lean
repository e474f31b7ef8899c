/- A line of a text added to a circuit, as the model does it: mathematics, and what lies in memory. -/
import Derived.Test.YtibaiajanggbdaaGreatDoorCirP2
import Derived.Test.YtibaiajanggbdaaGreatDoorCirA2
namespace Go.Proofs.YtibaiajanggbdaaGreatDoor
open Go Go.RowKit
set_option maxRecDepth 100000

def circB : ByteArray := ⟨#[99, 105, 114, 99, 117, 105, 116]⟩
def outsB : ByteArray := ⟨#[111, 117, 116, 115]⟩
theorem circB_list : circB.toList = [99, 105, 114, 99, 117, 105, 116] := by simp [circB]
theorem outsB_list : outsB.toList = [111, 117, 116, 115] := by simp [outsB]
def readB (s : ByteArray) : Int := readN s.data.toList
/-- The last kind below j with this word, -1 if there is none. -/
def kindTo (x : ByteArray) : Nat → Int
  | 0 => -1
  | j + 1 => if same (kindB (j : Int)) x = true then (j : Int) else kindTo x j
def lineC (C : Ci) (ws : List ByteArray) : Ci :=
  if (same (wordAt ws 0) circB && ((ws.length : Int) == 3)) = true then ⟨readB (wordAt ws 1), readB (wordAt ws 2), C.gs, C.os⟩
  else if same (wordAt ws 0) outsB = true then ⟨C.in0, C.in1, C.gs, C.os ++ (ws.drop 1).map readB⟩
  else if ((decide (0 ≤ kindTo (wordAt ws 0) 4) && decide (kindTo (wordAt ws 0) 4 ≤ 1)) && ((ws.length : Int) == 3)) = true then ⟨C.in0, C.in1, C.gs ++ [(kindTo (wordAt ws 0) 4, readB (wordAt ws 1), readB (wordAt ws 2))], C.os⟩
  else if ((kindTo (wordAt ws 0) 4 == 2) && ((ws.length : Int) == 2)) = true then ⟨C.in0, C.in1, C.gs ++ [(kindTo (wordAt ws 0) 4, readB (wordAt ws 1), 0)], C.os⟩
  else if (kindTo (wordAt ws 0) 4 == 3) = true then ⟨C.in0, C.in1, C.gs ++ [(kindTo (wordAt ws 0) 4, 0, 0)], C.os⟩
  else C
theorem kindTo_range (x : ByteArray) (j : Nat) : -1 ≤ kindTo x j ∧ kindTo x j < (j : Int) + 1 - 1 + (if j = 0 then 1 else 0) := by
  induction j with
  | zero => simp [kindTo]
  | succ j ih =>
    rw [kindTo]
    split
    · constructor <;> simp <;> omega
    · have := ih
      constructor
      · omega
      · split at this <;> simp <;> omega

/-- A circuit in a variable q, its lists in rows of the call's own from N on. -/
def PtrC (w : World) (N q : Nat) (C : Ci) : Prop :=
  q < N ∧ N ≤ w.heap.size ∧ ∃ G n c O m d, Blk w q #[.int .i64 C.in0, .int .i64 C.in1, .slice G n c, .slice O m d] 27 ∧ OwnG w N G n c C.gs ∧ Own w N O m d C.os
/-- Below N, nothing but the variable q has turned. -/
structure Past (N q : Nat) (w w' : World) : Prop where
  os : w'.os = w.os
  tape : w'.tape = w.tape
  output : w'.output = w.output
  size : w.heap.size ≤ w'.heap.size
  block : ∀ k, k < N → k ≠ q → w'.heap[k]? = w.heap[k]?
section
variable {w w' w'' : World} {N q : Nat} {C : Ci}
theorem Past.refl (N q : Nat) (w : World) : Past N q w w := ⟨rfl, rfl, rfl, Nat.le_refl _, fun _ _ _ => rfl⟩
theorem Past.trans (h : Past N q w w') (h' : Past N q w' w'') : Past N q w w'' := ⟨h'.os.trans h.os, h'.tape.trans h.tape, h'.output.trans h.output, Nat.le_trans h.size h'.size, fun k hk hq => (h'.block k hk hq).trans (h.block k hk hq)⟩
theorem Past.of (h : Below N w w') : Past N q w w' := ⟨h.os, h.tape, h.output, h.size, fun k hk _ => h.block k hk⟩
theorem Past.box (h : w.grownBy w' (some q)) (hN : N ≤ w.heap.size) : Past N q w w' := ⟨h.os, h.tape, h.output, h.size, fun k hk hq => h.block k (by omega) (by simpa using hq)⟩
theorem Past.grown (h : Past N q w w') (hN : w.heap.size = N) : w.grownBy w' (some q) := ⟨h.os, h.tape, h.output, h.size, fun k hk hq => h.block k (by omega) (by simpa using hq)⟩
theorem PtrC.below (h : PtrC w N q C) (hb : Below w.heap.size w w') : PtrC w' N q C := by
  obtain ⟨h1, h2, G, n, c, O, m, d, p, g, o⟩ := h
  exact ⟨h1, Nat.le_trans h2 hb.size, G, n, c, O, m, d, p.below' hb, g.below hb, o.below hb⟩
theorem Strs.apartI {B B' n m d : Nat} {v : Value} {ts : List ByteArray} {O : Option Addr} {zs : List Int} (h : Strs w B v n ts) (hO : Own w B' O m d zs) (hg : w.grownBy w' (blockOf O)) : Strs w' B v n ts := by
  refine ⟨h.1, h.2.kept hg ?_⟩
  cases hv : v.ownBlock with
  | none => exact .inl rfl
  | some g =>
    refine .inr fun e => ?_
    obtain ⟨c1, f1, k1⟩ := Lib.ownsRow_kind h.2 g hv
    cases O with
    | none => simp [blockOf] at e
    | some a =>
      obtain rfl : g = a.block := Option.some.inj e
      obtain ⟨c2, f2, k2⟩ := Lib.ownsRow_kind hO.2 a.block rfl
      rw [k1] at k2
      injection k2 with k2
      injection k2 with _ k2 _
      exact absurd k2 (by decide)
theorem Strs.box {B n j : Nat} {v u : Value} {cs : Array Value} {ts : List ByteArray} (h : Strs w B v n ts) (p : Blk w q cs 27) : Strs (w.setCell ⟨q, j, none⟩ u) B v n ts := by
  refine ⟨h.1, h.2.kept (grown_setCell (World.grownBy.refl w (some q)) j u) ?_⟩
  cases hv : v.ownBlock with
  | none => exact .inl rfl
  | some g =>
    refine .inr fun e => ?_
    obtain ⟨c1, f1, k1⟩ := Lib.ownsRow_kind h.2 g hv
    obtain rfl : g = q := Option.some.inj e
    rw [p] at k1
    injection k1 with k1
    injection k1 with _ k1 _
    exact absurd k1 (by decide)
theorem PtrC.set0 (h : PtrC w N q C) (z : Int) : PtrC (w.setCell ⟨q, 0, none⟩ (.int .i64 z)) N q ⟨z, C.in1, C.gs, C.os⟩ ∧ Past N q w (w.setCell ⟨q, 0, none⟩ (.int .i64 z)) := by
  obtain ⟨h1, h2, G, n, c, O, m, d, p, g, o⟩ := h
  have hg := grown_setCell (World.grownBy.refl w (some q)) 0 (.int .i64 z)
  exact ⟨⟨h1, Nat.le_trans h2 hg.size, G, n, c, O, m, d, p.set 0 _, g.kept hg (fun ad e => by have := (g.born ad e).1; simp; omega), o.kept hg (fun ad e => by have := (o.born ad e).1; simp; omega)⟩, Past.box hg h2⟩
theorem PtrC.set1 (h : PtrC w N q C) (z : Int) : PtrC (w.setCell ⟨q, 1, none⟩ (.int .i64 z)) N q ⟨C.in0, z, C.gs, C.os⟩ ∧ Past N q w (w.setCell ⟨q, 1, none⟩ (.int .i64 z)) := by
  obtain ⟨h1, h2, G, n, c, O, m, d, p, g, o⟩ := h
  have hg := grown_setCell (World.grownBy.refl w (some q)) 1 (.int .i64 z)
  exact ⟨⟨h1, Nat.le_trans h2 hg.size, G, n, c, O, m, d, p.set 1 _, g.kept hg (fun ad e => by have := (g.born ad e).1; simp; omega), o.kept hg (fun ad e => by have := (o.born ad e).1; simp; omega)⟩, Past.box hg h2⟩
theorem bornRow {R : Option Addr} (h : ∀ ad : Addr, R = some ad → N ≤ ad.block) : ∀ k, k < N → some k ≠ blockOf R := by
  intro k hk e
  cases hR : R with
  | none => rw [hR] at e; cases e
  | some a =>
    rw [hR] at e
    have : k = a.block := Option.some.inj e
    have := h a hR
    omega
/-- The outs of the circuit were added to, and the new slice stored. -/
theorem PtrC.putO {G O O' : Option Addr} {n c m d m' d' : Nat} {ys : List Int} (h1 : q < N) (h2 : N ≤ w.heap.size) (p : Blk w q #[.int .i64 C.in0, .int .i64 C.in1, .slice G n c, .slice O m d] 27) (g : OwnG w N G n c C.gs) (o : Own w N O m d C.os)
    (hg : w.grownBy w' (blockOf O)) (o' : Own w' N O' m' d' ys) :
    Blk w' q #[.int .i64 C.in0, .int .i64 C.in1, .slice G n c, .slice O m d] 27 ∧ PtrC (w'.setCell ⟨q, 3, none⟩ (.slice O' m' d')) N q ⟨C.in0, C.in1, C.gs, ys⟩ ∧ Past N q w (w'.setCell ⟨q, 3, none⟩ (.slice O' m' d')) := by
  have hb := bornRow (fun ad e => (o.born ad e).1)
  have p' := p.grown hg (hb q h1)
  have g' := g.apartI o hg
  have hs := grown_setCell (World.grownBy.refl w' (some q)) 3 (.slice O' m' d')
  have hN := Nat.le_trans h2 hg.size
  refine ⟨p', ⟨h1, Nat.le_trans hN hs.size, G, n, c, O', m', d', p'.set 3 _, g'.kept hs (fun ad e => by have := (g'.born ad e).1; simp; omega), o'.kept hs (fun ad e => by have := (o'.born ad e).1; simp; omega)⟩, Past.trans ⟨hg.os, hg.tape, hg.output, hg.size, fun k hk _ => hg.block k (by omega) (hb k hk)⟩ (Past.box hs hN)⟩
/-- The gates of the circuit were added to, and the new slice stored. -/
theorem PtrC.putG {G G' O : Option Addr} {n c n' c' m d : Nat} {gs' : List Ga} (h1 : q < N) (h2 : N ≤ w.heap.size) (p : Blk w q #[.int .i64 C.in0, .int .i64 C.in1, .slice G n c, .slice O m d] 27) (g : OwnG w N G n c C.gs) (o : Own w N O m d C.os)
    (hg : w.grownBy w' (blockOf G)) (g2 : OwnG w' N G' n' c' gs') :
    Blk w' q #[.int .i64 C.in0, .int .i64 C.in1, .slice G n c, .slice O m d] 27 ∧ PtrC (w'.setCell ⟨q, 2, none⟩ (.slice G' n' c')) N q ⟨C.in0, C.in1, gs', C.os⟩ ∧ Past N q w (w'.setCell ⟨q, 2, none⟩ (.slice G' n' c')) := by
  have hb := bornRow (fun ad e => (g.born ad e).1)
  have p' := p.grown hg (hb q h1)
  have o' := o.apartG g hg
  have hs := grown_setCell (World.grownBy.refl w' (some q)) 2 (.slice G' n' c')
  have hN := Nat.le_trans h2 hg.size
  refine ⟨p', ⟨h1, Nat.le_trans hN hs.size, G', n', c', O, m, d, p'.set 2 _, g2.kept hs (fun ad e => by have := (g2.born ad e).1; simp; omega), o'.kept hs (fun ad e => by have := (o'.born ad e).1; simp; omega)⟩, Past.trans ⟨hg.os, hg.tape, hg.output, hg.size, fun k hk _ => hg.block k (by omega) (hb k hk)⟩ (Past.box hs hN)⟩
theorem grownAfter {row : Option Nat} (hb : Below w.heap.size w w') (hg : w'.grownBy w'' row) : w.grownBy w'' row := ⟨hg.os.trans hb.os, hg.tape.trans hb.tape, hg.output.trans hb.output, Nat.le_trans hb.size hg.size, fun k hk hr => (hg.block k (Nat.lt_of_lt_of_le hk hb.size) hr).trans (hb.block k hk)⟩
end

/-- In a drawn region: one number more, and what else has turned. -/
theorem stepIntG {ops : Array Oper} {o : Oper} {a : Act} {K : Act → World → Prop} {Q : Exit → Act → World → Prop} {E : Prop} (W : World) (hgd : o.guard = none) (s x : Operand)
    (ho : o.op = .call { callee := .builtin .append, args := #[s, x], argTypes := #[25, 25] }) (z : Int) (B : Nat) (R : Option Addr) (n c : Nat) (ys : List Int) (q : Nat) (hs : a.eval s = .slice R n c)
    (hx : a.eval x = .slice (some ⟨q, 0, none⟩) 1 1) (hc : W.cell? ⟨q, 0, none⟩ = some (.int .i64 z)) (hown : Own W B R n c ys) (hn : n ≤ 16777216) (hB : B ≤ W.heap.size)
    (h : ∀ g cap w', Own w' B (some ⟨g, 0, none⟩) (n + 1) cap (ys ++ [z]) → W.grownBy w' (blockOf R) → K (a.put o.dst (.slice (some ⟨g, 0, none⟩) (n + 1) cap)) w') :
    if Region.wanted o (yielded ops a.tmps) = true then Oper.wp Tryz.prog o a W K Q else E := by
  obtain ⟨i0, hi, hz0, hz1, hz2⟩ := info_parts infoInt
  refine step_append_lies W hgd s x _ ho B 3 i0 (.int .i64 0) 1 8 Tryz.underlying25 hi hz0 hz1 hz2 rfl (by decide) (.slice R n c) n (vals ys) hs hown.2 ⟨q, 0, none⟩ 1 1 [.int .i64 z] hx (by simp) ?_ (by simp [Value.oneCell']) (by omega) (by simp only [maxLen]; omega) (by omega) hB _ rfl ?_
  · intro j u hj
    match j, hj with
    | 0, hj => simp at hj; subst hj; simpa [Addr.add] using hc
  · intro g cap w' h1 h2 _ _
    rw [ownBlockOf] at h2
    exact h g cap w' ⟨by simp [hown.1], by rw [vals_append]; exact h1⟩ h2

theorem litG1 (w : World) (p q r : Int) : HasG (w.alloc (.cells #[.int .i64 p, .int .i64 q, .int .i64 r] 51)) (some ⟨w.heap.size, 0, none⟩) 1 [(p, q, r)] := by
  have y := Blk.new w #[.int .i64 p, .int .i64 q, .int .i64 r] 51
  refine ⟨rfl, fun _ => ⟨_, rfl, y.lt, fun k hk => ?_⟩⟩
  obtain rfl : k = 0 := by omega
  have e : ∀ j, (⟨w.heap.size, 0, none⟩ : Addr).add j = ⟨w.heap.size, 0 + j, none⟩ := fun j => Lib.add_plain _ _ _
  have e2 : ∀ j, (⟨w.heap.size, 0 + 0 * 3, none⟩ : Addr).add j = ⟨w.heap.size, 0 + 0 * 3 + j, none⟩ := fun j => Lib.add_plain _ _ _
  rw [e, e2, e2]
  exact ⟨y.cell (i := 0) rfl, y.cell (i := 1) rfl, y.cell (i := 2) rfl⟩

end Go.Proofs.YtibaiajanggbdaaGreatDoor
