/- Words for memory that the proofs of this seat share: a slice that reads as a list of integers, a row of the call's own, and a row that is being filled. No condition beyond what each lemma names. -/
import Derived.Test.YteiibneaihdmbaaRows
import Derived.WalkKit
import Derived.WalkSpells
import Derived.WalkLawsBesides
import Derived.Carry
import Derived.ProofKit
import Derived.OpenShut
import Derived.Deep.Draws
import Derived.Deep.AppendLies
import Derived.Deep.Onto
import Derived.Maps.AppendAt
import Derived.Lib.Hide
import Derived.Deep.QuietTactic
import Derived.BigQuiet
namespace Go.Proofs.Yteiibneaihdmbaa
open Go.RowKit
set_option maxRecDepth 100000

theorem own : ownKnob Try.prog.godebug = none := by kernel_rfl
theorem laidOut : laidOutB Try.prog = true := by kernel_rfl
theorem infoInt : (Try.prog.info? 3).map (fun i => (i.zero, i.size, i.bytes)) = some (some (.int .i64 0), 1, 8) := by kernel_rfl

/-- The cells that hold a list of integers. -/
def vals (zs : List Int) : List Value := zs.map (Value.int .i64)

theorem vals_length (zs : List Int) : (vals zs).length = zs.length := by simp [vals]
theorem vals_at (zs : List Int) (k : Nat) (h : k < zs.length) : (vals zs)[k]? = some (.int .i64 (zs.getD k 0)) := by
  simp [vals, List.getD, List.getElem?_eq_getElem h]
theorem vals_one (zs : List Int) : ∀ u ∈ vals zs, u.oneCell' = true := by
  intro u hu
  obtain ⟨z, _, rfl⟩ := List.mem_map.1 hu
  rfl

/-- The slice of n elements at address A reads as zs. -/
def Has (w : World) (A : Option Addr) (n : Nat) (zs : List Int) : Prop :=
  zs.length = n ∧ (0 < n → ∃ ad : Addr, A = some ad ∧ ad.block < w.heap.size ∧ ∀ k, k < n → w.cell? (ad.add k) = some (.int .i64 (zs.getD k 0)))

/-- A row of the call's own, from block B on, that holds zs. -/
def Own (w : World) (B : Nat) (A : Option Addr) (n c : Nat) (zs : List Int) : Prop :=
  zs.length = n ∧ w.ownsRow B 3 1 (.slice A n c) n (vals zs)

theorem addBlock (a : Addr) (n : Nat) : (a.add n).block = a.block := by unfold Addr.add; split <;> rfl

section
variable {w w' : World} {A : Option Addr} {B B' n c : Nat} {zs : List Int}

theorem Has.len (h : Has w A n zs) : zs.length = n := h.1
theorem Has.at_ {k : Nat} (h : Has w A n zs) (hk : k < n) : ∃ ad : Addr, A = some ad ∧ w.cell? (ad.add k) = some (.int .i64 (zs.getD k 0)) := by
  obtain ⟨ad, e, _, hc⟩ := h.2 (by omega)
  exact ⟨ad, e, hc k hk⟩
/-- The same with a letter for the element; what it is stays hidden from the walk. -/
theorem Has.elem {k : Nat} (h : Has w A n zs) (hk : k < n) : ∃ (ad : Addr) (z : Int), A = some ad ∧ w.cell? (ad.add k) = some (.int .i64 z) ∧ Hid (z = zs.getD k 0) := by
  obtain ⟨ad, e, hc⟩ := h.at_ hk
  exact ⟨ad, _, e, hc, rfl⟩
theorem Has.keep (h : Has w A n zs) (hs : w.heap.size ≤ w'.heap.size) (hk : ∀ ad : Addr, A = some ad → ad.block < w.heap.size → w'.heap[ad.block]? = w.heap[ad.block]?) : Has w' A n zs :=
  ⟨h.1, fun hn => by
    obtain ⟨ad, rfl, hb, hc⟩ := h.2 hn
    refine ⟨ad, rfl, by omega, fun k hkn => ?_⟩
    have hq : w'.heap[(ad.add k).block]? = w.heap[(ad.add k).block]? := by rw [addBlock]; exact hk ad rfl hb
    exact (World.cell?_of_block hq).trans (hc k hkn)⟩
theorem Has.below (h : Has w A n zs) (hb : Below w.heap.size w w') : Has w' A n zs := h.keep hb.size fun _ _ hlt => hb.block _ hlt
theorem Has.keep' {n₀ : Nat} (h : Has w A n zs) (hb : Below n₀ w w') (hA : ∀ ad : Addr, A = some ad → ad.block < n₀) : Has w' A n zs := h.keep hb.size fun ad e _ => hb.block _ (hA ad e)
theorem Has.grown (h : Has w A n zs) {row : Option Nat} (hg : w.grownBy w' row) (hne : ∀ ad : Addr, A = some ad → some ad.block ≠ row) : Has w' A n zs :=
  h.keep hg.size fun ad e hlt => hg.block _ hlt (hne ad e)
theorem Has.nil_ : Has w none 0 [] := ⟨rfl, fun h => absurd h (by omega)⟩

theorem Own.nil_ (w : World) (B : Nat) : Own w B none 0 0 [] := ⟨rfl, World.ownsRow_nil _ _ _ _⟩
theorem Own.has (h : Own w B A n c zs) : Has w A n zs := by
  refine ⟨h.1, fun hn => ?_⟩
  obtain ⟨g, cap, hv, _, hlt⟩ := h.2.form hn
  have hA : A = some ⟨g, 0, none⟩ := by injection hv
  subst hA
  refine ⟨_, rfl, hlt, fun k hk => ?_⟩
  exact h.2.cells (g := g) rfl k _ (vals_at zs k (by rw [h.1]; exact hk))
theorem Own.born (h : Own w B A n c zs) (ad : Addr) (e : A = some ad) : B ≤ ad.block ∧ ad.block < w.heap.size := by
  subst e
  exact h.2.lt ad.block rfl
theorem Own.kept (h : Own w B A n c zs) {row : Option Nat} (hg : w.grownBy w' row) (hne : ∀ ad : Addr, A = some ad → some ad.block ≠ row) : Own w' B A n c zs := by
  refine ⟨h.1, h.2.kept hg ?_⟩
  cases A with
  | none => exact .inl rfl
  | some ad => exact .inr (hne ad rfl)
theorem grownOf (h : Below w.heap.size w w') (row : Option Nat) : w.grownBy w' row := ⟨h.os, h.tape, h.output, h.size, fun i hi _ => h.block i hi⟩
theorem belowOf (h : w.grownBy w' none) : Below w.heap.size w w' := ⟨h.os, h.tape, h.output, h.size, fun i hi => h.block i hi (by simp)⟩
theorem Own.below (h : Own w B A n c zs) (hb : Below w.heap.size w w') : Own w' B A n c zs := h.kept (grownOf hb none) (by simp)
theorem Own.mono (h : Own w B A n c zs) (hB : B' ≤ B) : Own w B' A n c zs := ⟨h.1, h.2.mono hB⟩
theorem Own.capLe (h : Own w B A n c zs) : n ≤ c := by
  rcases h.2.2 with ⟨hv, h0⟩ | ⟨g, cap, cur, hv, _, _, hnc, _⟩
  · omega
  · injection hv with _ _ hc
    omega
end

/-- A row of n cells, from block B on, of which the cells in D are as in ys: it is being filled. -/
def Filled (w : World) (B e g n : Nat) (ys : List Value) (D : Nat → Prop) : Prop :=
  ∃ xs : List Value, w.ownsRow B e 1 (.slice (some ⟨g, 0, none⟩) n n) n xs ∧ ∀ j, j < n → D j → xs[j]? = ys[j]?

section
variable {w w' : World} {B e g n : Nat} {ys : List Value} {D D' : Nat → Prop}

theorem Filled.start (h : w.ownsRow B e 1 (.slice (some ⟨g, 0, none⟩) n n) n ys) (zs : List Value) (hD : ∀ j, j < n → ¬ D j) : Filled w B e g n zs D := ⟨_, h, fun j hj hd => absurd hd (hD j hj)⟩
theorem Filled.cell (h : Filled w B e g n ys D) {k : Nat} (hk : k < n) : ∃ u, w.cell? ⟨g, k, none⟩ = some u := by
  obtain ⟨xs, ho, _⟩ := h
  have hl : xs.length = n := by simpa using ho.1
  exact ⟨xs[k]'(by omega), by rw [ho.cellAt k (by omega)]; exact List.getElem?_eq_getElem _⟩
theorem Filled.free (h : Filled w B e g n ys D) (k : Nat) : w.frozen? ⟨g, k, none⟩ = false := by
  obtain ⟨xs, ho, _⟩ := h
  exact ho.frozenAt k
theorem Filled.lt (h : Filled w B e g n ys D) : B ≤ g ∧ g < w.heap.size := by
  obtain ⟨xs, ho, _⟩ := h
  exact ho.lt g rfl
theorem Filled.put (h : Filled w B e g n ys D) {k : Nat} {u : Value} (hk : k < n) (hu : ys[k]? = some u) (hD : ∀ j, j < n → D' j → D j ∨ j = k) : Filled (w.setCell ⟨g, k, none⟩ u) B e g n ys D' := by
  obtain ⟨xs, ho, hx⟩ := h
  have hl : xs.length = n := by simpa using ho.1
  refine ⟨_, (ho.stored k u).1, fun j hj hd => ?_⟩
  by_cases e : j = k
  · subst e
    rw [List.getElem?_set_self (by omega), hu]
  · rw [List.getElem?_set_ne (by omega)]
    rcases hD j hj hd with h1 | h1
    · exact hx j hj h1
    · exact absurd h1 e
theorem Filled.kept {row : Option Nat} (h : Filled w B e g n ys D) (hg : w.grownBy w' row) (hne : some g ≠ row) : Filled w' B e g n ys D := by
  obtain ⟨xs, ho, hx⟩ := h
  exact ⟨xs, ho.kept hg (.inr hne), hx⟩
theorem Filled.below (h : Filled w B e g n ys D) (hb : Below w.heap.size w w') : Filled w' B e g n ys D := h.kept (grownOf hb none) (by simp)
theorem Filled.drew (h : Filled w B e g n ys D) : Filled w.drew B e g n ys D := h
theorem Filled.drewN (h : Filled w B e g n ys D) (k : Nat) : Filled (w.drewN k) B e g n ys D := h
theorem Filled.full (h : Filled w B e g n ys D) (hl : ys.length = n) (hD : ∀ j, j < n → D j) : w.ownsRow B e 1 (.slice (some ⟨g, 0, none⟩) n n) n ys := by
  obtain ⟨xs, ho, hx⟩ := h
  have hl' : xs.length = n := by simpa using ho.1
  have : xs = ys := by
    apply List.ext_getElem?
    intro j
    by_cases hj : j < n
    · exact hx j hj (hD j hj)
    · rw [List.getElem?_eq_none (by omega), List.getElem?_eq_none (by omega)]
  rw [← this]
  exact ho
end

/-- The block of a slice's address. -/
def blockOf (A : Option Addr) : Option Nat := A.map (·.block)

/-- A slice with elements lies below block S. -/
def Old (S : Nat) (A : Option Addr) (n : Nat) : Prop := 0 < n → ∀ ad : Addr, A = some ad → ad.block < S

section
variable {w w' wx W : World} {A X : Option Addr} {B B' S n c nx cx : Nat} {zs xs : List Int}
theorem Has.old (h : Has w A n zs) : Old w.heap.size A n := by
  intro hn ad e
  obtain ⟨ad', e', hb, _⟩ := h.2 hn
  rw [e] at e'
  injection e' with e'
  rw [e']
  exact hb
theorem Has.marked (h : Has w A n zs) (hg : w.grownBy w' (blockOf X)) (ho : Old S A n) (hX : Own wx B X nx cx xs) (hS : S ≤ B) : Has w' A n zs := by
  refine ⟨h.1, fun hn => ?_⟩
  have hk : Has w' A n zs := h.grown hg (fun ad e he => by
    have h1 := ho hn ad e
    cases X with
    | none => simp [blockOf] at he
    | some x =>
      have h2 := (hX.born x rfl).1
      simp [blockOf] at he
      omega)
  exact hk.2 hn
theorem Own.marked (h : Own w B' A n c zs) (hg : w.grownBy w' (blockOf X)) (hX : Own wx B X nx cx xs) (hS : wx.heap.size ≤ B') : Own w' B' A n c zs :=
  h.kept hg (fun ad e he => by
    have h1 := (h.born ad e).1
    cases X with
    | none => simp [blockOf] at he
    | some x =>
      have h2 := (hX.born x rfl).2
      simp [blockOf] at he
      omega)
theorem Own.markedOld (h : Own w B' A n c zs) (hg : w.grownBy w' (blockOf X)) (hA : Own wx B' A n c zs) {wy : World} (hX : Own wy B X nx cx xs) (hS : wx.heap.size ≤ B) : Own w' B' A n c zs :=
  h.kept hg (fun ad e he => by
    have h1 := (hA.born ad e).2
    cases X with
    | none => simp [blockOf] at he
    | some x =>
      have h2 := (hX.born x rfl).1
      simp [blockOf] at he
      omega)
theorem belowMarked (h : Below S W w) (hg : w.grownBy w' (blockOf X)) (hX : Own wx B X nx cx xs) (hS : S ≤ B) (hw : S ≤ w.heap.size) : Below S W w' :=
  h.grown hg hw (fun k hk => by
    cases X with
    | none => simp [blockOf] at hk
    | some x =>
      have h2 := (hX.born x rfl).1
      simp [blockOf] at hk
      omega)
end

/-- A number that fits 64 bits. -/
def I64 (x : Int) : Prop := -9223372036854775808 ≤ x ∧ x ≤ 9223372036854775807
theorem I64.of {x : Int} (h : (Lit.int .i64 x).wf = true) : I64 x := by
  have h1 : IntKind.i64.min = -9223372036854775808 := rfl
  have h2 : IntKind.i64.max = 9223372036854775807 := rfl
  simp only [Lit.wf, Bool.and_eq_true, decide_eq_true_eq] at h
  unfold I64
  omega

theorem below_drewN {B : Nat} {a w : World} (h : Below B a w) (n : Nat) : Below B a (w.drewN n) := ⟨h.os, h.tape, h.output, h.size, h.block⟩

end Go.Proofs.Yteiibneaihdmbaa
