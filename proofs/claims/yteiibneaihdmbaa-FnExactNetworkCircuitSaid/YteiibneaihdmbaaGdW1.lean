/- A maker of circuits in memory: a block with the inputs, the gates in a row of the call's own, and no outs; what a call that makes gates leaves as it was. No condition beyond what each lemma names. -/
import Derived.Test.YteiibneaihdmbaaRet
import Derived.Test.YteiibneaihdmbaaCirA2
import Derived.Test.YteiibneaihdmbaaGen2
import Derived.Maps.AppendAt
namespace Go.Proofs.Yteiibneaihdmbaa
open Go Go.RowKit
set_option maxRecDepth 100000

/-- Of what was in memory nothing turned but block q and the gates' row r; the new row is the old one or a new block. -/
structure MkTo (q : Nat) (w : World) (r : Option Nat) (w' : World) (r' : Option Nat) : Prop where
  os : w'.os = w.os
  tape : w'.tape = w.tape
  output : w'.output = w.output
  size : w.heap.size ≤ w'.heap.size
  block : ∀ i, i < w.heap.size → i ≠ q → some i ≠ r → w'.heap[i]? = w.heap[i]?
  row : r' = r ∨ ∃ i, r' = some i ∧ w.heap.size ≤ i

/-- Block q, of type t, holds a maker with the gates G, its n gates in row R. -/
structure Mk (w : World) (t : TypeId) (q B N0 N1 : Nat) (R : Option Addr) (n c : Nat) (G : List Ga) : Prop where
  blk : Blk w q #[.int .i64 (N0 : Int), .int .i64 (N1 : Int), .slice R n c, .slice none 0 0] t
  own : OwnG w B R n c G
  base : B ≤ q
  apart : ∀ ad, R = some ad → ad.block ≠ q
  notInt : t ≠ 3
  notGate : t ≠ 69

/-- A list of integers in a block of integers. -/
def HasI (w : World) (A : Option Addr) (n : Nat) (zs : List Int) : Prop :=
  Has w A n zs ∧ ∀ ad : Addr, 0 < n → A = some ad → ∃ cs m, w.heap[ad.block]? = some (.cells cs 3 m)

section
variable {w w1 w' w'' W : World} {t : TypeId} {q B B' N0 N1 n c m d g : Nat} {R A O : Option Addr} {r r1 r' r'' : Option Nat} {G : List Ga} {zs : List Int} {cs : Array Value}

theorem MkTo.refl (q : Nat) (w : World) (r : Option Nat) : MkTo q w r w r := ⟨rfl, rfl, rfl, Nat.le_refl _, fun _ _ _ _ => rfl, .inl rfl⟩
theorem MkTo.trans (h : MkTo q w r w' r') (k : MkTo q w' r' w'' r'') : MkTo q w r w'' r'' := by
  refine ⟨k.os.trans h.os, k.tape.trans h.tape, k.output.trans h.output, Nat.le_trans h.size k.size, fun i hi hq hr => ?_, ?_⟩
  · refine (k.block i (Nat.lt_of_lt_of_le hi h.size) hq ?_).trans (h.block i hi hq hr)
    rcases h.row with e | ⟨j, e, hj⟩
    · rw [e]; exact hr
    · rw [e]
      intro e2
      injection e2 with e2
      omega
  · rcases k.row with e | ⟨j, e, hj⟩
    · rw [e]; exact h.row
    · exact .inr ⟨j, e, Nat.le_trans h.size hj⟩
theorem MkTo.grown {row : Option Nat} (h : MkTo q w r w' r') (hg : w'.grownBy w'' row) (hr : ∀ k, row = some k → w.heap.size ≤ k) : MkTo q w r w'' r' :=
  ⟨hg.os.trans h.os, hg.tape.trans h.tape, hg.output.trans h.output, Nat.le_trans h.size hg.size, fun i hi hq hr2 => (hg.block i (Nat.lt_of_lt_of_le hi h.size) (fun e => by have := hr i e.symm; omega)).trans (h.block i hi hq hr2), h.row⟩
theorem MkTo.next (h : MkTo q w r w' r') (hb : Below w'.heap.size w' w'') : MkTo q w r w'' r' := h.grown (grownOf hb none) (by simp)
theorem MkTo.after (hb : Below w.heap.size w w') (h : MkTo q w' r w'' r') : MkTo q w r w'' r' :=
  ⟨h.os.trans hb.os, h.tape.trans hb.tape, h.output.trans hb.output, Nat.le_trans hb.size h.size, fun i hi hq hr => (h.block i (Nat.lt_of_lt_of_le hi hb.size) hq hr).trans (hb.block i hi), h.row.imp id fun ⟨i, e, hi⟩ => ⟨i, e, Nat.le_trans hb.size hi⟩⟩
theorem MkTo.drewN (h : MkTo q w r w' r') (k : Nat) : MkTo q w r (w'.drewN k) r' := ⟨h.os, h.tape, h.output, h.size, h.block, h.row⟩
theorem MkTo.drew (h : MkTo q w r w' r') : MkTo q w r w'.drew r' := ⟨h.os, h.tape, h.output, h.size, h.block, h.row⟩

theorem Mk.lt (h : Mk w t q B N0 N1 R n c G) : q < w.heap.size := h.blk.lt
theorem Mk.len (h : Mk w t q B N0 N1 R n c G) : G.length = n := h.own.1
/-- A block that is neither the maker nor gates stays. -/
theorem MkTo.stays (hT : MkTo q w (blockOf R) w' r') {i : Nat} (hi : i < w.heap.size) (hq : i ≠ q) (hg : ∀ ad, R = some ad → i ≠ ad.block) : w'.heap[i]? = w.heap[i]? := by
  refine hT.block i hi hq ?_
  cases hR : R with
  | none => simp [blockOf]
  | some ad => simp [blockOf]; exact hg ad hR
theorem MkTo.below (hT : MkTo q w (blockOf R) w' r') (hM : Mk w t q B N0 N1 R n c G) (hB : B' ≤ B) : Below B' w w' :=
  ⟨hT.os, hT.tape, hT.output, hT.size, fun i hi => hT.stays (by have := hM.base; have := hM.lt; omega) (by have := hM.base; omega) (fun ad e => by have := (hM.own.born ad e).1; omega)⟩
theorem Mk.typed (hM : Mk w t q B N0 N1 R n c G) (ad : Addr) (e : R = some ad) : ∃ xs m, w.heap[ad.block]? = some (.cells xs 69 m) := by
  subst e
  rcases hM.own.2.2 with ⟨hv, _⟩ | ⟨g, cap, cur, hv, _, hg, _⟩
  · cases hv
  · injection hv with e1
    injection e1 with e1
    rw [e1]
    exact ⟨_, _, hg⟩
/-- A block of another type stays. -/
theorem MkTo.typed (hT : MkTo q w (blockOf R) w' r') (hM : Mk w t q B N0 N1 R n c G) {i : Nat} {xs : Array Value} {e : TypeId} {mk : Nat × Nat} (hi : w.heap[i]? = some (.cells xs e mk)) (h1 : e ≠ t) (h2 : e ≠ 69) : w'.heap[i]? = w.heap[i]? := by
  refine hT.stays (Array.getElem?_eq_some_iff.1 hi).1 ?_ ?_
  · rintro rfl
    have := hM.blk
    unfold Blk at this
    rw [this] at hi
    injection hi with hi
    injection hi with _ hi
    exact h1 hi.symm
  · rintro ad e2 rfl
    obtain ⟨ys, mm, hy⟩ := hM.typed ad e2
    rw [hy] at hi
    injection hi with hi
    injection hi with _ hi
    exact h2 hi.symm
theorem Blk.mk {e : TypeId} (h : Blk w g cs e) (hT : MkTo q w (blockOf R) w' r') (hM : Mk w t q B N0 N1 R n c G) (h1 : e ≠ t) (h2 : e ≠ 69) : Blk w' g cs e := (hT.typed hM h h1 h2).trans h
theorem Own.keepAt (h : Own w B A n c zs) (hs : ∀ ad : Addr, A = some ad → w'.heap[ad.block]? = w.heap[ad.block]?) : Own w' B A n c zs := by
  refine ⟨h.1, h.2.1, ?_⟩
  rcases h.2.2 with h2 | ⟨g, cap, cur, e, hb, hg, h5, h6, h7, h8⟩
  · exact .inl h2
  · refine .inr ⟨g, cap, cur, e, hb, ?_, h5, h6, h7, h8⟩
    injection e with e1
    exact (hs _ e1).trans hg
theorem Own.typedI (h : Own w B A n c zs) (ad : Addr) (e : A = some ad) : ∃ xs, w.heap[ad.block]? = some (.cells xs 3 (0, 0)) := by
  subst e
  rcases h.2.2 with ⟨hv, _⟩ | ⟨g, cap, cur, hv, _, hg, _⟩
  · cases hv
  · injection hv with e1
    injection e1 with e1
    rw [e1]
    exact ⟨_, hg⟩
theorem Own.mk (h : Own w B' A m d zs) (hT : MkTo q w (blockOf R) w' r') (hM : Mk w t q B N0 N1 R n c G) : Own w' B' A m d zs := by
  refine h.keepAt fun ad e => ?_
  obtain ⟨xs, hx⟩ := h.typedI ad e
  exact hT.typed hM hx (fun e => hM.notInt e.symm) (by decide)
theorem Own.hasI (h : Own w B A n c zs) : HasI w A n zs := ⟨h.has, fun ad _ e => by
  obtain ⟨xs, hx⟩ := h.typedI ad e
  exact ⟨xs, _, hx⟩⟩
theorem HasI.mk (h : HasI w A m zs) (hT : MkTo q w (blockOf R) w' r') (hM : Mk w t q B N0 N1 R n c G) : HasI w' A m zs := by
  have key : ∀ ad : Addr, 0 < m → A = some ad → w'.heap[ad.block]? = w.heap[ad.block]? := fun ad h0 e => by
    obtain ⟨xs, mm, hx⟩ := h.2 ad h0 e
    exact hT.typed hM hx (fun e => hM.notInt e.symm) (by decide)
  refine ⟨⟨h.1.1, fun h0 => ?_⟩, fun ad h0 e => by rw [key ad h0 e]; exact h.2 ad h0 e⟩
  obtain ⟨ad, e, hb, hc⟩ := h.1.2 h0
  refine ⟨ad, e, Nat.lt_of_lt_of_le hb hT.size, fun k hk => ?_⟩
  rw [← hc k hk]
  exact World.cell?_of_block (by rw [addBlock]; exact key ad h0 e)
theorem HasI.below (h : HasI w A n zs) (hb : Below w.heap.size w w') : HasI w' A n zs := ⟨h.1.below hb, fun ad h0 e => by
  obtain ⟨xs, mm, hx⟩ := h.2 ad h0 e
  exact ⟨xs, mm, (hb.block _ (Array.getElem?_eq_some_iff.1 hx).1).trans hx⟩⟩
theorem HasI.grown {row : Option Nat} (h : HasI w A n zs) (hg : w.grownBy w' row) (hr : ∀ ad : Addr, 0 < n → A = some ad → some ad.block ≠ row) : HasI w' A n zs := by
  have key : ∀ ad : Addr, 0 < n → A = some ad → w'.heap[ad.block]? = w.heap[ad.block]? := fun ad h0 e => by
    obtain ⟨xs, mm, hx⟩ := h.2 ad h0 e
    exact hg.block _ (Array.getElem?_eq_some_iff.1 hx).1 (hr ad h0 e)
  refine ⟨⟨h.1.1, fun h0 => ?_⟩, fun ad h0 e => by rw [key ad h0 e]; exact h.2 ad h0 e⟩
  obtain ⟨ad, e, hb, hc⟩ := h.1.2 h0
  refine ⟨ad, e, Nat.lt_of_lt_of_le hb hg.size, fun k hk => ?_⟩
  rw [← hc k hk]
  exact World.cell?_of_block (by rw [addBlock]; exact key ad h0 e)
theorem HasI.nil_ : HasI w none 0 [] := ⟨Has.nil_, fun _ h => absurd h (by omega)⟩
theorem HasI.take {k : Nat} (h : HasI w A n zs) (hk : k ≤ n) : HasI w A k (zs.take k) := ⟨h.1.take hk, fun ad h0 e => h.2 ad (by omega) e⟩
theorem HasI.drop {k : Nat} {ad : Addr} (h : HasI w (some ad) n zs) (hk : k < n) : HasI w (some (ad.add k)) (n - k) (zs.drop k) := ⟨h.1.drop (by omega), fun ad' h0 e => by
  injection e with e
  rw [← e, addBlock]
  exact h.2 ad (by omega) rfl⟩
theorem HasI.old (h : HasI w A n zs) : Old w.heap.size A n := h.1.old
theorem HasI.marked (h : HasI w A n zs) {S nx cx : Nat} {X : Option Addr} {xs : List Int} {wx : World} (hg : w.grownBy w' (blockOf X)) (ho : Old S A n) (hX : Own wx B X nx cx xs) (hS : S ≤ B) : HasI w' A n zs :=
  h.grown hg (fun ad h0 e he => by
    have h1 := ho h0 ad e
    cases X with
    | none => simp [blockOf] at he
    | some x =>
      have h2 := (hX.born x rfl).1
      simp [blockOf] at he
      omega)

theorem Own.rowGe {S : Nat} (h : Own w S A n c zs) : ∀ k, blockOf A = some k → S ≤ k := by
  intro k e
  cases hA : A with
  | none => rw [hA] at e; simp [blockOf] at e
  | some ad =>
    rw [hA] at e
    simp [blockOf] at e
    have := (h.born ad hA).1
    omega
theorem HasI.to (h : HasI w A m zs) (hT : MkTo q w (blockOf R) w' r') (hM : Mk w t q B N0 N1 R n c G) : HasI w' A m zs := h.mk hT hM

theorem Mk.below (h : Mk w t q B N0 N1 R n c G) (hb : Below w.heap.size w w') : Mk w' t q B N0 N1 R n c G := ⟨h.blk.below' hb, h.own.below hb, h.base, h.apart, h.notInt, h.notGate⟩
theorem Mk.kept {row : Option Nat} (h : Mk w t q B N0 N1 R n c G) (hg : w.grownBy w' row) (h1 : some q ≠ row) (h2 : ∀ ad, R = some ad → some ad.block ≠ row) : Mk w' t q B N0 N1 R n c G :=
  ⟨h.blk.grown hg h1, h.own.kept hg h2, h.base, h.apart, h.notInt, h.notGate⟩
/-- A row of integers is appended to, or written: the maker stays. -/
theorem Mk.rowed (h : Mk w t q B N0 N1 R n c G) (hO : Own w B' O m d zs) (hg : w.grownBy w' (blockOf O)) : Mk w' t q B N0 N1 R n c G := by
  refine h.kept hg ?_ ?_
  · cases hOe : O with
    | none => simp [blockOf]
    | some ad =>
      simp [blockOf]
      rintro rfl
      obtain ⟨xs, hx⟩ := hO.typedI ad hOe
      have := h.blk
      unfold Blk at this
      rw [this] at hx
      injection hx with hx
      injection hx with _ hx
      exact h.notInt hx
  · intro ad e e2
    cases hOe : O with
    | none => rw [hOe] at e2; simp [blockOf] at e2
    | some a => rw [hOe] at e2; simp [blockOf] at e2; exact ownApart h.own hO ad a e hOe e2
theorem Mk.drewN (h : Mk w t q B N0 N1 R n c G) (k : Nat) : Mk (w.drewN k) t q B N0 N1 R n c G := ⟨h.blk, h.own, h.base, h.apart, h.notInt, h.notGate⟩
theorem Mk.drew (h : Mk w t q B N0 N1 R n c G) : Mk w.drew t q B N0 N1 R n c G := ⟨h.blk, h.own, h.base, h.apart, h.notInt, h.notGate⟩
theorem Mk.apartB (h : Mk w t q B N0 N1 R n c G) : some q ≠ blockOf R := by
  cases hR : R with
  | none => simp [blockOf]
  | some ad => simp [blockOf]; exact fun e => h.apart ad hR e.symm
theorem Mk.hasC (h : Mk w t q B N0 N1 R n c G) : HasC w (.agg #[.int .i64 (N0 : Int), .int .i64 (N1 : Int), .slice R n c, .slice none 0 0]) ⟨(N0 : Int), (N1 : Int), G, []⟩ :=
  ⟨R, n, c, none, 0, 0, rfl, h.own.has, Has.nil_, h.own.capLe, Nat.le_refl _, h.own.nilOk, fun _ => ⟨rfl, rfl⟩⟩
/-- The step: gates R' in the place of R. -/
theorem Mk.put {R' : Option Addr} {n' c' : Nat} {G' : List Ga} (h : Mk w t q B N0 N1 R n c G) (hg : w.grownBy w' (blockOf R)) (ho : OwnG w' B R' n' c' G') (hr : blockOf R' = blockOf R ∨ ∃ i, blockOf R' = some i ∧ w.heap.size ≤ i) :
    Mk (w'.setCell ⟨q, 2, none⟩ (.slice R' n' c')) t q B N0 N1 R' n' c' G' ∧ MkTo q w (blockOf R) (w'.setCell ⟨q, 2, none⟩ (.slice R' n' c')) (blockOf R') := by
  have hb : Blk w' q #[.int .i64 (N0 : Int), .int .i64 (N1 : Int), .slice R n c, .slice none 0 0] t := h.blk.grown hg (by
    cases hR : R with
    | none => simp [blockOf]
    | some ad => simp [blockOf]; exact fun e => h.apart ad hR e.symm)
  have hap : ∀ ad, R' = some ad → ad.block ≠ q := by
    rintro ad rfl
    rcases hr with e | ⟨i, e, hi⟩
    · cases hR : R with
      | none => rw [hR] at e; simp [blockOf] at e
      | some a =>
        rw [hR] at e
        simp [blockOf] at e
        rw [e]
        exact h.apart a hR
    · simp [blockOf] at e
      have := h.lt
      omega
  have gs : w'.grownBy (w'.setCell ⟨q, 2, none⟩ (.slice R' n' c')) (some q) := grown_setCell (World.grownBy.refl _ _) _ _
  refine ⟨⟨hb.set 2 _, ho.kept gs (fun ad e => by simp; exact hap ad e), h.base, hap, h.notInt, h.notGate⟩, ⟨gs.os.trans hg.os, gs.tape.trans hg.tape, gs.output.trans hg.output, Nat.le_trans hg.size gs.size, fun i hi hq hr2 => ?_, hr⟩⟩
  exact (gs.block i (Nat.lt_of_lt_of_le hi hg.size) (by simp; exact hq)).trans (hg.block i hi hr2)
end

/-- A call whose arguments are spelled otherwise. -/
theorem ownBlockOf' (R : Option Addr) (n c : Nat) : (Value.slice R n c).ownBlock = blockOf R := by cases R <;> rfl

/-- One gate is appended: where the row lies then. -/
theorem appendGateAt {ops : Array Oper} {rest : List Oper} {o : Oper} {a : Act} {Q : Exit → Act → World → Prop} (w : World) (hgd : o.guard = none) (s x : Operand)
    (ho : o.op = .call { callee := .builtin .append, args := #[s, x], argTypes := #[27, 27] }) (p q r : Int) (S : Nat) (R : Option Addr) (n c : Nat) (gs : List Ga) (hsv : a.eval s = .slice R n c)
    (hx : a.eval x = .slice (some ⟨w.heap.size, 0, none⟩) 1 1) (hv : OwnG w S R n c gs) (hn : n ≤ 33554432) (hS : S ≤ w.heap.size)
    (h : ∀ R' c' w', OwnG w' S R' (n + 1) c' (gs ++ [(p, q, r)]) → w.grownBy w' (blockOf R) → (blockOf R' = blockOf R ∨ ∃ i, blockOf R' = some i ∧ w.heap.size ≤ i) → wpList Try.prog ops Q rest (a.put o.dst (.slice R' (n + 1) c')) w') :
    wpList Try.prog ops Q (o :: rest) a (w.alloc (.cells #[.int .i64 p, .int .i64 q, .int .i64 r] 69)) := by
  obtain ⟨i0, hi, hz0, hz1, hz2⟩ := info_parts infoGate
  have b := belowNew w (.cells #[.int .i64 p, .int .i64 q, .int .i64 r] 69)
  have y := Blk.new w #[.int .i64 p, .int .i64 q, .int .i64 r] 69
  have hG1 : HasG (w.alloc (.cells #[.int .i64 p, .int .i64 q, .int .i64 r] 69)) (some ⟨w.heap.size, 0, none⟩) 1 [(p, q, r)] := ⟨rfl, fun _ => ⟨_, rfl, y.lt, fun k hk => by
    obtain rfl : k = 0 := by omega
    refine ⟨?_, ?_, ?_⟩
    · simp [Addr.add]
    · simp [Addr.add]
    · simp [Addr.add]⟩⟩
  refine wpList_append_own_at _ hgd s x _ ho S 69 i0 (.agg #[.int .i64 0, .int .i64 0, .int .i64 0]) 3 24 Try.underlying27 hi hz0 hz1 hz2 rfl (by decide) (.slice R n c) n (gvals gs) hsv (hv.2.alloc _) ⟨w.heap.size, 0, none⟩ 1 1 (gvals [(p, q, r)]) hx (by rw [gvals_length]; rfl) hG1.news (gvals_one _) (by simp only [maxLen]; omega) (by omega) (Nat.le_trans hS b.size) ?_
  intro v' w' h2 h3 _ h5
  rw [← gvals_append] at h2
  obtain ⟨R', c', rfl, ho'⟩ := ownGOf h2
  rw [ownBlockOf', ownBlockOf'] at h5
  rw [ownBlockOf'] at h3
  refine h R' c' w' ho' ((grownOf b _).trans h3) (h5.imp id fun e => ⟨_, e, b.size⟩)

end Go.Proofs.Yteiibneaihdmbaa
