/- Several texts in one: Cir1, Cir2, Cir3, Cir4, Cir5. What each says stands at its head. -/
import Derived.Test.YtibaiajanggbdaaGreatDoorHelp
import Derived.Test.YtibaiajanggbdaaGreatDoorGen2
import Derived.StillTailTactics
import Derived.Test.YtibaiajanggbdaaGreatDoorGen1
import Derived.Lib.SmallJoins
import Derived.Test.YtibaiajanggbdaaGreatDoorClose
import Derived.Deep.Slices

/- What the helpers of the exact laws do with a gate and with a list of gates: copy it, compare two, write marks, look whether the marks are still there. For lists of at most 1048576 gates. -/
namespace Go.Proofs.YtibaiajanggbdaaGreatDoor
open Go.RowKit
set_option maxRecDepth 100000


/-- A gate: its kind and its two wires. -/
abbrev Ga : Type := Int × Int × Int
def g0 : Ga := (0, 0, 0)
/-- The cells that hold a list of gates. -/
def gvals (gs : List Ga) : List Value := gs.flatMap fun g => [Value.int .i64 g.1, Value.int .i64 g.2.1, Value.int .i64 g.2.2]
theorem gvals_length (gs : List Ga) : (gvals gs).length = gs.length * 3 := by
  induction gs with
  | nil => rfl
  | cons g t ih => simp only [gvals, List.flatMap_cons, List.length_append, List.length_cons, List.length_nil] at ih ⊢; omega
theorem gvals_one (gs : List Ga) : ∀ u ∈ gvals gs, u.oneCell' = true := by
  intro u hu
  obtain ⟨g, _, h⟩ := List.mem_flatMap.1 hu
  simp at h
  rcases h with rfl | rfl | rfl <;> rfl
theorem gvals_append (gs hs : List Ga) : gvals (gs ++ hs) = gvals gs ++ gvals hs := by simp [gvals]
theorem gvals_cell (gs : List Ga) : ∀ (k : Nat), k < gs.length → (gvals gs)[k * 3]? = some (.int .i64 (gs.getD k g0).1) ∧ (gvals gs)[k * 3 + 1]? = some (.int .i64 (gs.getD k g0).2.1) ∧ (gvals gs)[k * 3 + 2]? = some (.int .i64 (gs.getD k g0).2.2) := by
  induction gs with
  | nil => intro k hk; simp at hk
  | cons g t ih =>
    intro k hk
    match k with
    | 0 => exact ⟨rfl, rfl, rfl⟩
    | k + 1 =>
      have h := ih k (by simp at hk; omega)
      have e1 : (k + 1) * 3 = k * 3 + 3 := by omega
      rw [e1]
      exact h

/-- The slice of n gates at address A reads as gs. -/
def HasG (w : World) (A : Option Addr) (n : Nat) (gs : List Ga) : Prop :=
  gs.length = n ∧ (0 < n → ∃ ad : Addr, A = some ad ∧ ad.block < w.heap.size ∧ ∀ k, k < n → w.cell? (ad.add (k * 3)) = some (.int .i64 (gs.getD k g0).1) ∧ w.cell? ((ad.add (k * 3)).add 1) = some (.int .i64 (gs.getD k g0).2.1) ∧ w.cell? ((ad.add (k * 3)).add 2) = some (.int .i64 (gs.getD k g0).2.2))
/-- A row of the call's own, from block B on, that holds gs. -/
def OwnG (w : World) (B : Nat) (A : Option Addr) (n c : Nat) (gs : List Ga) : Prop :=
  gs.length = n ∧ w.ownsRow B 51 3 (.slice A n c) n (gvals gs)

section
variable {w w' : World} {A : Option Addr} {B B' n c : Nat} {gs : List Ga}
/-- A letter for each part of a gate; the cells in the form in which the walk asks for them. -/
theorem HasG.elem {k : Nat} (h : HasG w A n gs) (hk : k < n) : ∃ (ad : Addr) (x y z : Int), A = some ad ∧ w.cell? (ad.add (k * 3)) = some (.int .i64 x) ∧ w.cell? ⟨(ad.add (k * 3)).block, (ad.add (k * 3)).off + 1, none⟩ = some (.int .i64 y) ∧ w.cell? ⟨(ad.add (k * 3)).block, (ad.add (k * 3)).off + 2, none⟩ = some (.int .i64 z) ∧ Hid (gs.getD k g0 = (x, y, z)) := by
  obtain ⟨ad, e, _, hc⟩ := h.2 (by omega)
  exact ⟨ad, _, _, _, e, (hc k hk).1, (hc k hk).2.1, (hc k hk).2.2, rfl⟩
theorem HasG.keep (h : HasG w A n gs) (hs : w.heap.size ≤ w'.heap.size) (hk : ∀ ad : Addr, A = some ad → ad.block < w.heap.size → w'.heap[ad.block]? = w.heap[ad.block]?) : HasG w' A n gs :=
  ⟨h.1, fun hn => by
    obtain ⟨ad, rfl, hb, hc⟩ := h.2 hn
    refine ⟨ad, rfl, by omega, fun k hkn => ?_⟩
    have hq : ∀ j, w'.heap[(ad.add j).block]? = w.heap[(ad.add j).block]? := fun j => by rw [addBlock]; exact hk ad rfl hb
    have hq2 : ∀ j i, w'.heap[((ad.add j).add i).block]? = w.heap[((ad.add j).add i).block]? := fun j i => by rw [addBlock, addBlock]; exact hk ad rfl hb
    obtain ⟨h1, h2, h3⟩ := hc k hkn
    exact ⟨(World.cell?_of_block (hq _)).trans h1, (World.cell?_of_block (hq2 _ _)).trans h2, (World.cell?_of_block (hq2 _ _)).trans h3⟩⟩
theorem HasG.below (h : HasG w A n gs) (hb : Below w.heap.size w w') : HasG w' A n gs := h.keep hb.size fun _ _ hlt => hb.block _ hlt
theorem OwnG.has (h : OwnG w B A n c gs) : HasG w A n gs := by
  refine ⟨h.1, fun hn => ?_⟩
  obtain ⟨g, cap, hv, _, hlt⟩ := h.2.form hn
  have hA : A = some ⟨g, 0, none⟩ := by injection hv
  subst hA
  refine ⟨_, rfl, hlt, fun k hk => ?_⟩
  obtain ⟨h1, h2, h3⟩ := gvals_cell gs k (by rw [h.1]; exact hk)
  have e0 := h.2.cellAt (k * 3) (by omega)
  have e1 := h.2.cellAt (k * 3 + 1) (by omega)
  have e2 := h.2.cellAt (k * 3 + 2) (by omega)
  rw [addNone', addOff', addOff']
  exact ⟨e0.trans h1, e1.trans h2, e2.trans h3⟩
theorem OwnG.born (h : OwnG w B A n c gs) (ad : Addr) (e : A = some ad) : B ≤ ad.block ∧ ad.block < w.heap.size := by
  subst e
  exact h.2.lt ad.block rfl
theorem OwnG.kept (h : OwnG w B A n c gs) {row : Option Nat} (hg : w.grownBy w' row) (hne : ∀ ad : Addr, A = some ad → some ad.block ≠ row) : OwnG w' B A n c gs := by
  refine ⟨h.1, h.2.kept hg ?_⟩
  cases A with
  | none => exact .inl rfl
  | some ad => exact .inr (hne ad rfl)
theorem OwnG.below (h : OwnG w B A n c gs) (hb : Below w.heap.size w w') : OwnG w' B A n c gs := h.kept (grownOf hb none) (by simp)
theorem OwnG.mono (h : OwnG w B A n c gs) (hB : B' ≤ B) : OwnG w B' A n c gs := ⟨h.1, h.2.mono hB⟩
theorem OwnG.nil_ (w : World) (B : Nat) : OwnG w B none 0 0 [] := ⟨rfl, World.ownsRow_nil _ _ _ _⟩
end

theorem gput {w : World} {B e g n c k : Nat} {xs : List Value} {gs : List Ga} {x y z : Int} (ho : w.ownsRow B e 3 (.slice (some ⟨g, 0, none⟩) n c) n xs) (hk : k < n) (hl : gs.length = n) (hx : ∀ j, j < k * 3 → xs[j]? = (gvals gs)[j]?) (hg : gs.getD k g0 = (x, y, z)) :
    ∃ xs', (((w.setCell ⟨g, k * 3, none⟩ (.int .i64 x)).setCell ⟨g, k * 3 + 1, none⟩ (.int .i64 y)).setCell ⟨g, k * 3 + 2, none⟩ (.int .i64 z)).ownsRow B e 3 (.slice (some ⟨g, 0, none⟩) n c) n xs' ∧ ∀ j, j < (k + 1) * 3 → xs'[j]? = (gvals gs)[j]? := by
  have hxl : xs.length = n * 3 := ho.1
  refine ⟨_, ((((ho.stored (k * 3) _).1).stored (k * 3 + 1) _).1.stored (k * 3 + 2) _).1, fun j hj => ?_⟩
  obtain ⟨h1, h2, h3⟩ := gvals_cell gs k (by omega)
  rw [hg] at h1 h2 h3
  by_cases e2 : j = k * 3 + 2
  · subst e2
    rw [List.getElem?_set_self (by simp; omega)]
    exact h3.symm
  · rw [List.getElem?_set_ne (by omega)]
    by_cases e1 : j = k * 3 + 1
    · subst e1
      rw [List.getElem?_set_self (by simp; omega)]
      exact h2.symm
    · rw [List.getElem?_set_ne (by omega)]
      by_cases e0 : j = k * 3
      · subst e0
        rw [List.getElem?_set_self (by omega)]
        exact h1.symm
      · rw [List.getElem?_set_ne (by omega)]
        exact hx j (by omega)
theorem gcells {w : World} {B e g n c k : Nat} {xs : List Value} (ho : w.ownsRow B e 3 (.slice (some ⟨g, 0, none⟩) n c) n xs) (hk : k < n) :
    (∃ u, w.cell? ⟨g, k * 3, none⟩ = some u) ∧ (∃ u, w.cell? ⟨g, k * 3 + 1, none⟩ = some u) ∧ (∃ u, w.cell? ⟨g, k * 3 + 2, none⟩ = some u) := by
  have hxl : xs.length = n * 3 := ho.1
  have h : ∀ j, j < n * 3 → ∃ u, w.cell? ⟨g, j, none⟩ = some u := fun j hj => ⟨xs[j]'(by omega), by rw [ho.cellAt j hj]; exact List.getElem?_eq_getElem _⟩
  exact ⟨h _ (by omega), h _ (by omega), h _ (by omega)⟩

theorem infoGate : (Tryz.prog.info? 51).map (fun i => (i.zero, i.size, i.bytes)) = some (some (.agg #[.int .i64 0, .int .i64 0, .int .i64 0]), 3, 24) := by kernel_rfl

set_option maxHeartbeats 400000 in
theorem eqGate_same (x y z : Int) (w : World) :
    Calls Tryz.prog 113 #[.agg #[.int .i64 x, .int .i64 y, .int .i64 z], .agg #[.int .i64 x, .int .i64 y, .int .i64 z]] w fun e w' => e = .returned (.bool true) ∧ Below w.heap.size w w' := by
  go_enter Tryz.func113, Tryz.ntmps113
  go_wp2_with fail
  go_ret
  exact ⟨rfl, ((Below.refl _ w).alloc (Nat.le_refl _) _).alloc (by simp) _⟩

end Go.Proofs.YtibaiajanggbdaaGreatDoor

/- The comparison, the marks and the size of a list of gates, in the exact laws. For lists of at most 1048576 gates. -/
namespace Go.Proofs.YtibaiajanggbdaaGreatDoor
open Go.RowKit
set_option maxRecDepth 100000

set_option maxRecDepth 100000 in
set_option maxHeartbeats 400000 in
theorem eqGateS_same (A B : Option Addr) (n n' c d : Nat) (gs : List Ga) (w : World) (ha : HasG w A n gs) (hb : HasG w B n' gs) (hn : n ≤ 16777216) :
    Calls Tryz.prog 70 #[.slice A n c, .slice B n' d] w fun e w' => e = .returned (.bool true) ∧ Below w.heap.size w w' := by
  obtain rfl : n = n' := ha.1.symm.trans hb.1
  go_enter Tryz.func70, Tryz.ntmps70
  go_wp2
  go_loopw [5] (fun i wr => ∃ k : Nat, k ≤ n ∧ i = .int .i64 k ∧ Below w.heap.size w wr) (fun i _ => n - (intOf i).toNat)
  case atStart => exact ⟨0, Nat.zero_le _, rfl, Below.refl _ _⟩
  case round =>
    obtain ⟨k, hk, rfl, hbk⟩ := hrel
    by_cases hlt : k < n
    · obtain ⟨ad, x, y, z, rfl, hx, hy, hz, HE⟩ := (ha.below hbk).elem hlt
      obtain ⟨bd, x', y', z', rfl, hx', hy', hz', HE'⟩ := (hb.below hbk).elem hlt
      obtain ⟨rfl, rfl, rfl⟩ : x' = x ∧ y' = y ∧ z' = z := by
        have e := HE.out.symm.trans HE'.out
        injection e with e1 e2
        injection e2 with e2 e3
        exact ⟨e1.symm, e2.symm, e3.symm⟩
      have k0 : (0 : Int) ≤ (k : Int) := by omega
      have k1 : (k : Int) < (n : Int) := by omega
      go_wp2_with fail
      go_still_tail 8, (by kernel_rfl)
      change wpList _ _ _ _ _ wr.drew
      have b2 : Below w.heap.size w wr.drew := ⟨hbk.os, hbk.tape, hbk.output, hbk.size, hbk.block⟩
      generalize wr.drew = w2 at b2 ⊢
      clear hx hy hz hx' hy' hz'
      go_wp2_with fail
      refine (eqGate_same x' y' z' w2).mono ?_
      rintro e w3 ⟨rfl, b3⟩
      go_wp2_with fail
      go_roundw
      case rel => exact ⟨k + 1, by omega, by go_num, b2.trans (b3.mono b2.size)⟩
      case measure => simp [intOf]; omega
    · go_wp2
      go_ret
      exact ⟨rfl, hbk⟩

/-- The marks m, m + 1, .. in the cells of n gates. -/
def gmarks (m : Int) (n : Nat) : List Ga := (List.range n).map fun (j : Nat) => (m + 3 * (j : Int), m + 3 * (j : Int) + 1, m + 3 * (j : Int) + 2)
theorem gmarks_length (m : Int) (n : Nat) : (gmarks m n).length = n := by simp [gmarks]
theorem gmarks_at (m : Int) (n k : Nat) (h : k < n) : (gmarks m n).getD k g0 = (m + 3 * (k : Int), m + 3 * (k : Int) + 1, m + 3 * (k : Int) + 2) := by
  simp [gmarks, List.getD, h]

set_option maxHeartbeats 1000000 in
theorem markGateS_any (A : Option Addr) (B n c : Nat) (m : Int) (gs : List Ga) (w : World) (h : OwnG w B A n c gs) (hn : n ≤ 1048576) (hm0 : 0 ≤ m) (hm1 : m ≤ 16777216) :
    Calls Tryz.prog 72 #[.slice A n c, .int .i64 m] w fun e w' => e = .returned (.int .i64 (m + 3 * (n : Int))) ∧ OwnG w' B A n c (gmarks m n) ∧ w.grownBy w' (blockOf A) := by
  go_enter Tryz.func72, Tryz.ntmps72
  go_wp2
  go_loopw [1, 5] (fun q i wr => ∃ (k : Nat) (xs : List Value), k ≤ n ∧ i = .int .i64 k ∧ q = .int .i64 (m + 3 * (k : Int)) ∧ wr.ownsRow B 51 3 (.slice A n c) n xs ∧ (∀ j, j < k * 3 → xs[j]? = (gvals (gmarks m n))[j]?) ∧ w.grownBy wr (blockOf A)) (fun _ i _ => n - (intOf i).toNat)
  case atStart => exact ⟨0, _, Nat.zero_le _, rfl, by simp, h.2, by intro j hj; omega, World.grownBy.refl _ _⟩
  case round =>
    obtain ⟨k, xs, hk, rfl, rfl, ho, hxs, hgk⟩ := hrel
    by_cases hlt : k < n
    · obtain ⟨g, cap, hv, _, _⟩ := ho.form (by omega)
      obtain rfl : A = some ⟨g, 0, none⟩ := by injection hv
      obtain rfl : c = cap := by injection hv
      have HX := Lib.hid hxs
      clear hxs hv
      obtain ⟨⟨u0, c0⟩, ⟨u1, c1⟩, ⟨u2, c2⟩⟩ := gcells ho hlt
      have f0 := ho.frozenAt (k * 3)
      have f1 := ho.frozenAt (k * 3 + 1)
      have f2 := ho.frozenAt (k * 3 + 2)
      have k0 : (0 : Int) ≤ (k : Int) := by omega
      have k1 : (k : Int) < (n : Int) := by omega
      have w0 : IntKind.i64.wrap (m + 3 * (k : Int) + 1) = m + 3 * (k : Int) + 1 := wrapIn (by omega) (by omega)
      have w1 : IntKind.i64.wrap (m + 3 * (k : Int) + 1 + 1) = m + 3 * (k : Int) + 2 := by rw [wrapIn (by omega) (by omega)]; omega
      have w2 : IntKind.i64.wrap (m + 3 * (k : Int) + 2 + 1) = m + 3 * ((k + 1 : Nat) : Int) := by rw [wrapIn (by omega) (by omega)]; push_cast; omega
      go_wp2_with fail
      obtain ⟨xs', ho3, hx3⟩ := gput ho hlt (gmarks_length m n) HX.out (gmarks_at m n k hlt)
      go_roundw
      case rel => exact ⟨k + 1, xs', by omega, by go_num, rfl, ho3, hx3, grown_setCell (grown_setCell (grown_setCell hgk _ _) _ _) _ _⟩
      case measure => simp [intOf]; omega
    · obtain rfl : k = n := by omega
      go_wp2
      go_ret
      refine ⟨rfl, ⟨gmarks_length m k, ?_⟩, hgk⟩
      have hxl : xs.length = k * 3 := ho.1
      have e : xs = gvals (gmarks m k) := by
        apply List.ext_getElem?
        intro j
        by_cases hj : j < k * 3
        · exact hxs j hj
        · rw [List.getElem?_eq_none (by omega), List.getElem?_eq_none (by rw [gvals_length, gmarks_length]; omega)]
      rw [← e]
      exact ho

set_option maxHeartbeats 1000000 in
theorem heldGateS_any (A : Option Addr) (n c : Nat) (m : Int) (w : World) (h : HasG w A n (gmarks m n)) (hn : n ≤ 1048576) (hm0 : 0 ≤ m) (hm1 : m ≤ 16777216) :
    Calls Tryz.prog 74 #[.slice A n c, .int .i64 m] w fun e w' => e = .returned (.int .i64 (m + 3 * (n : Int))) ∧ w = w' := by
  go_enter Tryz.func74, Tryz.ntmps74
  go_wp2
  go_loop [1, 5] (fun q i => ∃ k : Nat, k ≤ n ∧ i = .int .i64 k ∧ q = .int .i64 (m + 3 * (k : Int))) (fun _ i => n - (intOf i).toNat)
  case atStart => exact ⟨0, Nat.zero_le _, rfl, by simp⟩
  case round =>
    obtain ⟨k, hk, rfl, rfl⟩ := hrel
    by_cases hlt : k < n
    · obtain ⟨ad, x, y, z, rfl, hx, hy, hz, HE⟩ := h.elem hlt
      obtain ⟨rfl, rfl, rfl⟩ : x = m + 3 * (k : Int) ∧ y = m + 3 * (k : Int) + 1 ∧ z = m + 3 * (k : Int) + 2 := by
        have e := HE.out.symm.trans (gmarks_at m n k hlt)
        injection e with e1 e2
        injection e2 with e2 e3
        exact ⟨e1, e2, e3⟩
      have k0 : (0 : Int) ≤ (k : Int) := by omega
      have k1 : (k : Int) < (n : Int) := by omega
      have w0 : IntKind.i64.wrap (m + 3 * (k : Int) + 1) = m + 3 * (k : Int) + 1 := wrapIn (by omega) (by omega)
      have w1 : IntKind.i64.wrap (m + 3 * (k : Int) + 1 + 1) = m + 3 * (k : Int) + 2 := by rw [wrapIn (by omega) (by omega)]; omega
      have w2 : IntKind.i64.wrap (m + 3 * (k : Int) + 2 + 1) = m + 3 * ((k + 1 : Nat) : Int) := by rw [wrapIn (by omega) (by omega)]; push_cast; omega
      go_wp2_with fail
      go_round
      case rel => exact ⟨k + 1, by omega, by go_num, rfl⟩
      case measure => simp [intOf]; omega
    · obtain rfl : k = n := by omega
      go_wp2
      go_ret
      exact ⟨rfl, rfl⟩

end Go.Proofs.YtibaiajanggbdaaGreatDoor

/- A circuit in memory: one that reads as given, one whose lists lie in rows of their own; and what the exact laws' helpers do with circuits: copy, size, comparison, marks. For lists of at most 1048576 elements. -/
namespace Go.Proofs.YtibaiajanggbdaaGreatDoor
open Go.RowKit
set_option maxRecDepth 100000


/-- A circuit: its inputs of both parties, its gates, its outs. -/
structure Ci where
  in0 : Int
  in1 : Int
  gs : List Ga
  os : List Int

def cv (x y : Int) (G : Option Addr) (n c : Nat) (O : Option Addr) (m d : Nat) : Value := .agg #[.int .i64 x, .int .i64 y, .slice G n c, .slice O m d]

/-- The value v reads as the circuit C. -/
def HasC (w : World) (v : Value) (C : Ci) : Prop :=
  ∃ G n c O m d, v = .agg #[.int .i64 C.in0, .int .i64 C.in1, .slice G n c, .slice O m d] ∧ HasG w G n C.gs ∧ Has w O m C.os ∧ n ≤ c ∧ m ≤ d ∧ NilOk G n c ∧ NilOk O m d
/-- The same, and its lists lie in rows of the call's own, from block B on. -/
def OwnC (w : World) (B : Nat) (v : Value) (C : Ci) : Prop :=
  ∃ G n c O m d, v = .agg #[.int .i64 C.in0, .int .i64 C.in1, .slice G n c, .slice O m d] ∧ OwnG w B G n c C.gs ∧ Own w B O m d C.os

section
variable {w w' : World} {v : Value} {C : Ci} {B B' S T n c m d : Nat} {A O : Option Addr} {gs : List Ga} {zs : List Int}
theorem OwnG.capLe (h : OwnG w B A n c gs) : n ≤ c := by
  rcases h.2.2 with ⟨hv, h0⟩ | ⟨g, cap, cur, hv, _, _, hnc, _⟩
  · omega
  · injection hv with _ _ hc
    omega
theorem OwnG.nilOk (h : OwnG w B A n c gs) : NilOk A n c := by
  intro e
  subst e
  rcases h.2.2 with ⟨hv, h0⟩ | ⟨g, cap, cur, hv, _⟩
  · injection hv with _ _ hc
    exact ⟨h0, hc⟩
  · injection hv with ha
    cases ha
theorem HasC.below (h : HasC w v C) (hb : Below w.heap.size w w') : HasC w' v C := by
  obtain ⟨G, n, c, O, m, d, e, h1, h2, h3⟩ := h
  exact ⟨G, n, c, O, m, d, e, h1.below hb, h2.below hb, h3⟩
theorem OwnC.below (h : OwnC w B v C) (hb : Below w.heap.size w w') : OwnC w' B v C := by
  obtain ⟨G, n, c, O, m, d, e, h1, h2⟩ := h
  exact ⟨G, n, c, O, m, d, e, h1.below hb, h2.below hb⟩
theorem OwnC.mono (h : OwnC w B v C) (hB : B' ≤ B) : OwnC w B' v C := by
  obtain ⟨G, n, c, O, m, d, e, h1, h2⟩ := h
  exact ⟨G, n, c, O, m, d, e, h1.mono hB, h2.mono hB⟩
theorem OwnC.has (h : OwnC w B v C) : HasC w v C := by
  obtain ⟨G, n, c, O, m, d, e, h1, h2⟩ := h
  exact ⟨G, n, c, O, m, d, e, h1.has, h2.has, h1.capLe, h2.capLe, h1.nilOk, own_nilOk h2⟩
theorem OwnG.span (h : OwnG w B A n c gs) (hs : Span S T w w') (hT : T ≤ B) : OwnG w' B A n c gs := by
  refine ⟨h.1, ?_⟩
  rcases h.2 with ⟨h1, h2⟩
  refine ⟨h1, ?_⟩
  rcases h2 with h2 | ⟨g, cap, cur, e, hb, hg, h5, h6, h7, h8⟩
  · exact .inl h2
  · refine .inr ⟨g, cap, cur, e, hb, ?_, h5, h6, h7, h8⟩
    rw [hs.block g (by have := (Array.getElem?_eq_some_iff.1 hg).1; exact this) (.inr (by omega))]
    exact hg
theorem OwnC.span (h : OwnC w B v C) (hs : Span S T w w') (hT : T ≤ B) : OwnC w' B v C := by
  obtain ⟨G, n, c, O, m, d, e, h1, h2⟩ := h
  exact ⟨G, n, c, O, m, d, e, h1.span hs hT, h2.span hs hT⟩
/-- A row of gates and a row of integers never share a block. -/
theorem ownApart (h1 : OwnG w B A n c gs) (h2 : Own w B' O m d zs) : ∀ a b : Addr, A = some a → O = some b → a.block ≠ b.block := by
  rintro a b rfl rfl e
  rcases h1.2.2 with ⟨hv, _⟩ | ⟨g, cap, cur, hv, _, hg, _⟩
  · cases hv
  · rcases h2.2.2 with ⟨hv2, _⟩ | ⟨g2, cap2, cur2, hv2, _, hg2, _⟩
    · cases hv2
    · injection hv with e1
      injection hv2 with e2
      injection e1 with e1
      injection e2 with e2
      rw [e1, e2] at e
      have e' : g = g2 := e
      subst e'
      rw [hg] at hg2
      injection hg2 with e3
      injection e3 with _ e4
      exact absurd e4 (by decide)
end

/-- The size of a circuit that came in: what is left of x. -/
def leftOf (C : Ci) (x : Int) : Int := if x - C.gs.length < 0 then -1 else if x - C.gs.length - C.os.length < 0 then -1 else x - C.gs.length - C.os.length

end Go.Proofs.YtibaiajanggbdaaGreatDoor

/- The comparison of two circuits that read alike, and the marks in a circuit, in the exact laws. For lists of at most 1048576 elements. -/
namespace Go.Proofs.YtibaiajanggbdaaGreatDoor
open Go.RowKit
set_option maxRecDepth 100000


set_option maxHeartbeats 1000000 in
theorem eqCircuit_same (v v' : Value) (C : Ci) (w : World) (h : HasC w v C) (h' : HasC w v' C) (hn : C.gs.length ≤ 1048576) (hm : C.os.length ≤ 1048576) :
    Calls Tryz.prog 24 #[v, v'] w fun e w' => e = .returned (.bool true) ∧ Below w.heap.size w w' := by
  obtain ⟨G, n, c, O, m, d, rfl, hG, hO, _, _, _, _⟩ := h
  obtain ⟨G', n', c', O', m', d', rfl, hG', hO', _, _, _, _⟩ := h'
  have hgl := hG.1
  have hol := hO.1
  obtain ⟨x, y, gs, os⟩ := C
  show Calls Tryz.prog 24 #[.agg #[.int .i64 x, .int .i64 y, .slice G n c, .slice O m d], .agg #[.int .i64 x, .int .i64 y, .slice G' n' c', .slice O' m' d']] w _
  simp only at hgl hol hn hm hG hO hG' hO'
  obtain ⟨W1, hW1⟩ : ∃ W, W = w.alloc (.cells #[.int .i64 x, .int .i64 y, .slice G n c, .slice O m d] 27) := ⟨_, rfl⟩
  obtain ⟨W2, hW2⟩ : ∃ W, W = W1.alloc (.cells #[.int .i64 x, .int .i64 y, .slice G' n' c', .slice O' m' d'] 27) := ⟨_, rfl⟩
  have s1 : W1.heap.size = w.heap.size + 1 := by rw [hW1]; simp
  have p0 : Blk W2 w.heap.size #[.int .i64 x, .int .i64 y, .slice G n c, .slice O m d] 27 := by rw [hW2, hW1]; exact (Blk.new _ _ _).alloc _
  have p1 : Blk W2 (w.heap.size + 1) #[.int .i64 x, .int .i64 y, .slice G' n' c', .slice O' m' d'] 27 := by rw [hW2]; exact Blk.newAt _ _ _ s1.symm
  have B2 : Below w.heap.size w W2 := by rw [hW2, hW1]; exact ((Below.refl _ w).alloc (Nat.le_refl _) _).alloc (by simp) _
  have HG := hG.below B2
  have HO := hO.below B2
  have HG' := hG'.below B2
  have HO' := hO'.below B2
  go_enter Tryz.func24, Tryz.ntmps24
  go_wp2_with fail
  rw [← hW1, ← hW2]
  clear hW1 hW2
  refine (eqGateS_same G G' n n' c c' gs W2 HG HG' (by omega)).mono ?_
  rintro e w1 ⟨rfl, b1⟩
  have q0 := (p0.below' b1).cell (i := 3) rfl
  have q1 := (p1.below' b1).cell (i := 3) rfl
  have B3 := B2.trans (b1.mono B2.size)
  have HO3 := HO.below b1
  have HO3' := HO'.below b1
  clear p0 p1 b1 B2 HO HO' HG HG' hG hG' hO hO'
  go_wp2_with fail
  refine (eqIntS_same O O' m m' d d' os w1 HO3 HO3' (by omega)).mono ?_
  rintro e w2 ⟨rfl, b2⟩
  have B4 := B3.trans (b2.mono B3.size)
  go_wp2_with fail
  go_ret
  exact ⟨rfl, B4⟩

/-- The marks from m on in the cells of a circuit's lists. -/
def markC (C : Ci) (m : Int) : Ci := ⟨C.in0, C.in1, gmarks m C.gs.length, marks (m + 3 * (C.gs.length : Int)) C.os.length⟩
/-- How many cells a circuit's lists have. -/
def sizeC (C : Ci) : Int := 3 * (C.gs.length : Int) + (C.os.length : Int)

set_option maxHeartbeats 1000000 in
theorem markCircuit_any (v : Value) (C C0 : Ci) (B : Nat) (k : Int) (w wx : World) (h : OwnC w B v C) (h0 : OwnC wx B v C0) (hx : wx.heap.size ≤ w.heap.size) (hn : C.gs.length ≤ 1048576) (hm : C.os.length ≤ 1048576) (hk0 : 0 ≤ k) (hk1 : k ≤ 8388608) :
    Calls Tryz.prog 25 #[v, .int .i64 k] w fun e w' => e = .returned (.int .i64 (k + sizeC C)) ∧ OwnC w' B v (markC C k) ∧ Span B wx.heap.size w w' := by
  obtain ⟨G, n, c, O, m, d, rfl, hG, hO⟩ := h
  obtain ⟨G0, n0, c0, O0, m0, d0, e0, hG0, hO0⟩ := h0
  have eG : G = G0 := by injection e0 with e; injection e with e; simp at e; exact e.2.2.1.1
  have eO : O = O0 := by injection e0 with e; injection e with e; simp at e; exact e.2.2.2.1
  subst eG
  subst eO
  have hgl := hG.1
  have hol := hO.1
  have gb : ∀ ad, G = some ad → B ≤ ad.block ∧ ad.block < wx.heap.size := hG0.born
  have ob : ∀ ad, O = some ad → B ≤ ad.block ∧ ad.block < wx.heap.size := hO0.born
  have apart := ownApart hG hO
  obtain ⟨x, y, gs, os⟩ := C
  show Calls Tryz.prog 25 #[.agg #[.int .i64 x, .int .i64 y, .slice G n c, .slice O m d], .int .i64 k] w _
  simp only at hgl hol hn hm hG hO
  have es : sizeC ⟨x, y, gs, os⟩ = 3 * (n : Int) + (m : Int) := by simp [sizeC, hgl, hol]
  have em : markC ⟨x, y, gs, os⟩ k = ⟨x, y, gmarks k n, marks (k + 3 * (n : Int)) m⟩ := by simp [markC, hgl, hol]
  rw [es, em]
  clear es em hG0 hO0 e0
  have B1 := belowNew w (.cells #[.int .i64 x, .int .i64 y, .slice G n c, .slice O m d] 27)
  have p0 := Blk.new w #[.int .i64 x, .int .i64 y, .slice G n c, .slice O m d] 27
  have S0 : Span B wx.heap.size w (w.alloc (.cells #[.int .i64 x, .int .i64 y, .slice G n c, .slice O m d] 27)) := ⟨B1.os, B1.tape, B1.output, B1.size, fun i hi _ => B1.block i hi⟩
  have hG1 := hG.below B1
  have hO1 := hO.below B1
  have HA := Lib.hid apart
  have GB := Lib.hid gb
  have OB := Lib.hid ob
  clear apart gb ob
  go_enter Tryz.func25, Tryz.ntmps25
  go_wp2_with fail
  generalize w.alloc (.cells #[.int .i64 x, .int .i64 y, .slice G n c, .slice O m d] 27) = W1 at *
  refine (markGateS_any G B n c k gs W1 hG1 (by omega) hk0 (by omega)).mono ?_
  rintro e w1 ⟨rfl, oG, g1⟩
  have q0 := p0.grown g1 (fun e => by
    cases hG' : G with
    | none => rw [hG'] at e; simp [blockOf] at e
    | some a => rw [hG'] at e; simp [blockOf] at e; have := (GB.out a hG').2; omega)
  have hO2 := hO1.kept g1 (fun ad e1 e2 => by
    cases hG' : G with
    | none => rw [hG'] at e2; simp [blockOf] at e2
    | some a => rw [hG'] at e2; simp [blockOf] at e2; exact HA.out a ad hG' e1 e2.symm)
  have S1 := S0.grown g1 (fun b e => by
    cases hG' : G with
    | none => rw [hG'] at e; simp [blockOf] at e
    | some a => rw [hG'] at e; simp [blockOf] at e; have := GB.out a hG'; omega)
  have c3 := q0.cell (i := 3) rfl
  clear p0 hG hG1 hO1 hO S0 B1 q0
  go_wp2_with fail
  refine (markIntS_any O B m d (k + 3 * (n : Int)) os w1 hO2 (by omega) (by omega) (by omega)).mono ?_
  rintro e w2 ⟨rfl, oO, g2⟩
  have oG2 := oG.kept g2 (fun ad e1 e2 => by
    cases hO' : O with
    | none => rw [hO'] at e2; simp [blockOf] at e2
    | some a => rw [hO'] at e2; simp [blockOf] at e2; exact HA.out ad a e1 hO' e2)
  have S2 := S1.grown g2 (fun b e => by
    cases hO' : O with
    | none => rw [hO'] at e; simp [blockOf] at e
    | some a => rw [hO'] at e; simp [blockOf] at e; have := OB.out a hO'; omega)
  go_wp2_with fail
  go_ret
  exact ⟨retI (by omega), ⟨G, n, c, O, m, d, rfl, oG2, oO⟩, S2⟩

set_option maxHeartbeats 1000000 in
theorem heldCircuit_any (v : Value) (C : Ci) (k : Int) (w : World) (h : HasC w v (markC C k)) (hn : C.gs.length ≤ 1048576) (hm : C.os.length ≤ 1048576) (hk0 : 0 ≤ k) (hk1 : k ≤ 8388608) :
    Calls Tryz.prog 26 #[v, .int .i64 k] w fun e w' => e = .returned (.int .i64 (k + sizeC C)) ∧ Below w.heap.size w w' := by
  obtain ⟨G, n, c, O, m, d, rfl, hG, hO, _, _, _, _⟩ := h
  obtain ⟨x, y, gs, os⟩ := C
  have hgl : gs.length = n := by have := hG.1; simpa [markC, gmarks_length] using this
  have hol : os.length = m := by have := hO.1; simpa [markC, marks_length] using this
  show Calls Tryz.prog 26 #[.agg #[.int .i64 x, .int .i64 y, .slice G n c, .slice O m d], .int .i64 k] w _
  have es : sizeC ⟨x, y, gs, os⟩ = 3 * (n : Int) + (m : Int) := by simp [sizeC, hgl, hol]
  rw [es]
  simp only [markC, hgl, hol] at hG hO hn hm
  have B1 := belowNew w (.cells #[.int .i64 x, .int .i64 y, .slice G n c, .slice O m d] 27)
  have c3 := (Blk.new w #[.int .i64 x, .int .i64 y, .slice G n c, .slice O m d] 27).cell (i := 3) rfl
  have hG1 := hG.below B1
  have hO1 := hO.below B1
  clear es
  go_enter Tryz.func26, Tryz.ntmps26
  go_wp2_with fail
  generalize w.alloc (.cells #[.int .i64 x, .int .i64 y, .slice G n c, .slice O m d] 27) = W1 at *
  refine (heldGateS_any G n c k W1 hG1 (by omega) hk0 (by omega)).mono ?_
  rintro e w1 ⟨rfl, rfl⟩
  go_wp2_with fail
  refine (heldIntS_any O m d (k + 3 * (n : Int)) W1 hO1 (by omega) (by omega) (by omega)).mono ?_
  rintro e w2 ⟨rfl, b2⟩
  go_wp2_with fail
  go_ret
  exact ⟨retI (by omega), B1.trans (b2.mono B1.size)⟩

end Go.Proofs.YtibaiajanggbdaaGreatDoor

/- A circuit that came in as an argument of an exact law: what it reads as. No condition. -/
namespace Go.Proofs.YtibaiajanggbdaaGreatDoor
open Go.ChangeShapes Go.WideShapes Go.ChangeAt Go.RowKit Go.Deep
set_option maxRecDepth 100000

/-- A gate all of whose numbers fit 64 bits. -/
def G64 (g : Ga) : Prop := I64 g.1 ∧ I64 g.2.1 ∧ I64 g.2.2

theorem atSome {α : Type} {l : List α} {i n : Nat} (hl : l.length = n) (hi : i < n) : ∃ y, l[i]? = some y := ⟨l[i]'(by omega), List.getElem?_eq_getElem _⟩

theorem openIntsAt {H : Type} {enc : TypeId × Value → H} {W : World} {fuel : Nat} {cs : List Value} {x : DataW H × List MemPlace} (h : DataW.trod enc Tryz.prog W 0 (fun _ => true) true fuel 25 cs = some x) :
    ∃ (A : Option Addr) (n c : Nat) (zs : List Int), cs = [.slice A n c] ∧ Has W A n zs ∧ n ≤ maxLen ∧ n ≤ c ∧ NilOk A n c ∧ ∀ z ∈ zs, I64 z := by
  rcases open_ints Tryz.underlying25 Tryz.underlying3 cellsInt h with ⟨rfl, _⟩ | ⟨a, len, cap, zs, rfl, _, hl, hm, hlen, ex, hc, hwf⟩
  · exact ⟨none, 0, 0, [], rfl, Has.nil_, Nat.zero_le _, Nat.le_refl _, fun _ => ⟨rfl, rfl⟩, by simp⟩
  · simp only [if_true] at hlen
    refine ⟨some a, len, cap, zs.take len, rfl, ⟨by rw [List.length_take]; omega, fun hn => ⟨a, rfl, ?_, fun k hk => ?_⟩⟩, by omega, hl, (fun e => by cases e), fun z hz => I64.of (hwf z (List.mem_of_mem_take hz))⟩
    · have h0 := World.block_lt_of_cell? W _ (hc 0 (by omega))
      rwa [addBlock] at h0
    · rw [hc k (by omega)]
      simp [List.getD, hk]

/-- A circuit whose numbers fit 64 bits. -/
def C64 (C : Ci) : Prop := I64 C.in0 ∧ I64 C.in1 ∧ (∀ g ∈ C.gs, G64 g) ∧ ∀ z ∈ C.os, I64 z

/-- A circuit that the helpers of the exact laws take. -/
def Fit (C : Ci) : Prop := C.gs.length ≤ 1048576 ∧ C.os.length ≤ 1048576 ∧ C64 C

theorem leftFit {C : Ci} {x l : Int} (h : leftOf C x = l) (h0 : ¬ l < 0) (hx : x ≤ 1048576) : C.gs.length ≤ 1048576 ∧ C.os.length ≤ 1048576 ∧ l ≤ x := by
  unfold leftOf at h
  split at h
  · omega
  · split at h
    · omega
    · omega

section
variable {w w' wb wx : World} {v : Value} {C C0 : Ci} {B S T n c g : Nat} {A X : Option Addr} {gs : List Ga} {zs : List Int} {cs : Array Value} {t : TypeId}
/-- A list of the call's own whose marks are written: nothing else has turned. -/
theorem spanOf (hg : w.grownBy w' (blockOf X)) (hX : Own wx B X n c zs) : Span B wx.heap.size w w' :=
  (Span.refl B wx.heap.size w).grown hg (fun k hk => by
    cases X with
    | none => simp [blockOf] at hk
    | some x =>
      have h2 := hX.born x rfl
      simp [blockOf] at hk
      omega)
theorem HasG.span (h : HasG w A n gs) (hs : Span S T w w') (hb : HasG wb A n gs) (hS : wb.heap.size ≤ S) : HasG w' A n gs := by
  refine ⟨h.1, fun hn => ?_⟩
  obtain ⟨ad0, e0, hlt0, _⟩ := hb.2 hn
  have hk : HasG w' A n gs := h.keep hs.size (fun ad e hlt => hs.block _ hlt (.inl (by rw [e0] at e; injection e with e; rw [← e]; omega)))
  exact hk.2 hn
theorem HasC.span (h : HasC w v C) (hs : Span S T w w') (hb : HasC wb v C) (hS : wb.heap.size ≤ S) : HasC w' v C := by
  obtain ⟨G, n, c, O, m, d, rfl, h1, h2, h3⟩ := h
  obtain ⟨G', n', c', O', m', d', e, k1, k2, _⟩ := hb
  injection e with e
  simp at e
  obtain ⟨⟨rfl, rfl, rfl⟩, rfl, rfl, rfl⟩ := e
  exact ⟨G, n, c, O, m, d, rfl, h1.span hs k1 hS, h2.span hs (fun hn ad e => by have := k2.old hn ad e; omega), h3⟩
end

theorem OwnC.kept {w w' : World} {B g : Nat} {v : Value} {C : Ci} (h : OwnC w B v C) (hg : w.grownBy w' (some g)) (hlt : g < B) : OwnC w' B v C := by
  obtain ⟨G, n, c, O, m, d, e, h1, h2⟩ := h
  exact ⟨G, n, c, O, m, d, e, h1.kept hg (fun ad e => by have := (h1.born ad e).1; simp; omega), h2.kept hg (fun ad e => by have := (h2.born ad e).1; simp; omega)⟩

/-- A variable of four cells is written whole. -/
theorem fourSet {w wn : World} {B S g : Nat} {v a b c d z0 z1 z2 z3 : Value} {C : Ci} {t : TypeId} (on : OwnC wn B v C) (zn : Blk wn g #[z0, z1, z2, z3] t) (hlt : g < B) (bn : Below S w wn) (hg : S ≤ g) :
    Blk ((((wn.setCell ⟨g, 0, none⟩ a).setCell ⟨g, 1, none⟩ b).setCell ⟨g, 2, none⟩ c).setCell ⟨g, 3, none⟩ d) g #[a, b, c, d] t ∧
    OwnC ((((wn.setCell ⟨g, 0, none⟩ a).setCell ⟨g, 1, none⟩ b).setCell ⟨g, 2, none⟩ c).setCell ⟨g, 3, none⟩ d) B v C ∧
    Below S w ((((wn.setCell ⟨g, 0, none⟩ a).setCell ⟨g, 1, none⟩ b).setCell ⟨g, 2, none⟩ c).setCell ⟨g, 3, none⟩ d) :=
  ⟨(((zn.set 0 a).set 1 b).set 2 c).set 3 d, on.kept (grown_setCell (grown_setCell (grown_setCell (grown_setCell (World.grownBy.refl _ _) _ _) _ _) _ _) _ _) hlt,
    (((bn.setCell hg _).setCell hg _).setCell hg _).setCell hg _⟩

end Go.Proofs.YtibaiajanggbdaaGreatDoor
