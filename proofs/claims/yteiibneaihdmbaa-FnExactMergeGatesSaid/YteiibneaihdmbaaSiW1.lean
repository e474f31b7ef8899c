/- What lies in memory while gates are kept: a row of places, a circuit's variable, its row of gates. No condition beyond what each lemma names. -/
import Derived.Test.YteiibneaihdmbaaSiM2
import Derived.Test.YteiibneaihdmbaaCirA2
namespace Go.Proofs.Yteiibneaihdmbaa
open Go.RowKit
set_option maxRecDepth 100000

/-- A row of integers does not lie in a block of another type. -/
theorem Own.notBlk {w : World} {B n c g : Nat} {A : Option Addr} {zs : List Int} {cs : Array Value} {t : TypeId} (h : Own w B A n c zs) (b : Blk w g cs t) (ht : t ≠ 3) : some g ≠ blockOf A := by
  intro e
  rcases h.2.2 with ⟨e0, _⟩ | ⟨g', cap, cur, e0, _, hg, _⟩
  · injection e0 with e1
    rw [e1] at e; cases e
  · injection e0 with e1
    rw [e1] at e
    injection e with e
    subst e
    rw [show w.heap[g]? = some (.cells cs t (0, 0)) from b] at hg
    injection hg with hg
    injection hg with _ h2
    exact ht h2
theorem OwnG.notBlk {w : World} {B n c g : Nat} {A : Option Addr} {gs : List Ga} {cs : Array Value} {t : TypeId} (h : OwnG w B A n c gs) (b : Blk w g cs t) (ht : t ≠ 69) : some g ≠ blockOf A := by
  intro e
  rcases h.2.2 with ⟨e0, _⟩ | ⟨g', cap, cur, e0, _, hg, _⟩
  · injection e0 with e1
    rw [e1] at e; cases e
  · injection e0 with e1
    rw [e1] at e
    injection e with e
    subst e
    rw [show w.heap[g]? = some (.cells cs t (0, 0)) from b] at hg
    injection hg with hg
    injection hg with _ h2
    exact ht h2

theorem notOld {S : Option Addr} {g : Nat} (h : ∀ a, S = some a → a.block < g) : some g ≠ blockOf S := fun e => by
  cases S with
  | none => simp [blockOf] at e
  | some a => simp [blockOf] at e; have := h a rfl; omega

/-- A row of places, a circuit's variable in block b, and the row of its gates, all from block T on. -/
structure DropSt (w : World) (T b : Nat) (x y ov : Value) (S : Option Addr) (l cS : Nat) (mv : List Int) (R : Option Addr) (m cR : Nat) (gs : List Ga) : Prop where
  row : Own w T S l cS mv
  blk : Blk w b #[x, y, .slice R m cR, ov] 29
  gates : OwnG w T R m cR gs
  base : T ≤ b

section
variable {w w' : World} {T b l cS m cR : Nat} {x y ov : Value} {S R : Option Addr} {mv : List Int} {gs : List Ga}
theorem DropSt.below (h : DropSt w T b x y ov S l cS mv R m cR gs) (hb : Below w.heap.size w w') : DropSt w' T b x y ov S l cS mv R m cR gs :=
  ⟨h.row.below hb, h.blk.below' hb, h.gates.below hb, h.base⟩
/-- Another block turned, which was made later than these. -/
theorem DropSt.later {g : Nat} (h : DropSt w T b x y ov S l cS mv R m cR gs) (hS : ∀ a, S = some a → a.block < g) (hR : ∀ a, R = some a → a.block < g) (hbg : b < g) (hg : w.grownBy w' (some g)) : DropSt w' T b x y ov S l cS mv R m cR gs :=
  ⟨h.row.kept hg (fun a e e2 => by have := hS a e; simp at e2; omega), h.blk.grown hg (by simp; omega), h.gates.kept hg (fun a e e2 => by have := hR a e; simp at e2; omega), h.base⟩
/-- A block beside these turned, of a type of its own. -/
theorem DropSt.beside {g : Nat} {cs : Array Value} {t : TypeId} (h : DropSt w T b x y ov S l cS mv R m cR gs) (p : Blk w g cs t) (h1 : t ≠ 3) (h2 : t ≠ 69) (hne : b ≠ g) (hg : w.grownBy w' (some g)) : DropSt w' T b x y ov S l cS mv R m cR gs :=
  ⟨h.row.kept hg (fun a e e2 => h.row.notBlk p h1 (by rw [e]; simpa [blockOf] using e2.symm)), h.blk.grown hg (by simpa using hne), h.gates.kept hg (fun a e e2 => h.gates.notBlk p h2 (by rw [e]; simpa [blockOf] using e2.symm)), h.base⟩
theorem DropSt.old (h : DropSt w T b x y ov S l cS mv R m cR gs) : (∀ a, S = some a → a.block < w.heap.size) ∧ (∀ a, R = some a → a.block < w.heap.size) ∧ b < w.heap.size :=
  ⟨fun a e => (h.row.born a e).2, fun a e => (h.gates.born a e).2, h.blk.lt⟩
/-- A place more. -/
theorem DropSt.putS {v : Value} {zs : List Int} (h : DropSt w T b x y ov S l cS mv R m cR gs) (own : w'.ownsRow T 3 1 v (l + 1) (vals zs)) (hg : w.grownBy w' (blockOf S)) :
    ∃ S' c', v = .slice S' (l + 1) c' ∧ DropSt w' T b x y ov S' (l + 1) c' zs R m cR gs := by
  obtain ⟨S', c', rfl, ho⟩ := ownOf own
  exact ⟨S', c', rfl, ho, h.blk.grown hg (h.row.notBlk h.blk (by decide)), h.gates.apartI h.row hg, h.base⟩
/-- A gate more: the row has turned, the variable not yet. -/
theorem DropSt.putR {v : Value} {hs : List Ga} (h : DropSt w T b x y ov S l cS mv R m cR gs) (own : w'.ownsRow T 69 3 v (m + 1) (gvals hs)) (hg : w.grownBy w' (blockOf R)) :
    ∃ R' c', v = .slice R' (m + 1) c' ∧ Blk w' b #[x, y, .slice R m cR, ov] 29 ∧ DropSt (w'.setCell ⟨b, 2, none⟩ (.slice R' (m + 1) c')) T b x y ov S l cS mv R' (m + 1) c' hs := by
  obtain ⟨R', c', rfl, ho⟩ := ownGOf own
  have hb := h.blk.grown hg (h.gates.notBlk h.blk (by decide))
  have hr := h.row.apartG h.gates hg
  have g2 : w'.grownBy (w'.setCell ⟨b, 2, none⟩ (.slice R' (m + 1) c')) (some b) := grown_setCell (World.grownBy.refl _ _) _ _
  refine ⟨R', c', rfl, hb, hr.kept g2 (fun a e e2 => ?_), hb.set 2 _, ho.kept g2 (fun a e e2 => ?_), h.base⟩
  · exact hr.notBlk hb (by decide) (by rw [e]; simp [blockOf]; simpa using e2.symm)
  · exact ho.notBlk hb (by decide) (by rw [e]; simp [blockOf]; simpa using e2.symm)
end
end Go.Proofs.Yteiibneaihdmbaa
