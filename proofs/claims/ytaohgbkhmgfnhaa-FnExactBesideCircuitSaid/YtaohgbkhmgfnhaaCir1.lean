/- What the helpers of the exact laws do with a gate and with a list of gates: copy it, compare two, write marks, look whether the marks are still there. For lists of at most 1048576 gates. -/
import Derived.Test.YtaohgbkhmgfnhaaHelp
import Derived.Test.YtaohgbkhmgfnhaaGen1
import Derived.StillTailTactics
namespace Go.Proofs.Ytaohgbkhmgfnhaa
open Go.RowKit
set_option maxRecDepth 100000

/-- A gate: its kind and its two wires. -/
abbrev Ga : Type := Int × Int × Int
theorem addNone' (g k : Nat) : (⟨g, 0, none⟩ : Addr).add k = ⟨g, k, none⟩ := by simp [Addr.add] <;> omega
theorem addOff' (g i k : Nat) : (⟨g, i, none⟩ : Addr).add k = ⟨g, i + k, none⟩ := by simp [Addr.add] <;> omega
def g0 : Ga := (0, 0, 0)
/-- The cells that hold a list of gates. -/
def gvals (gs : List Ga) : List Value := gs.flatMap fun g => [Value.int .i64 g.1, Value.int .i64 g.2.1, Value.int .i64 g.2.2]
theorem gvals_length (gs : List Ga) : (gvals gs).length = gs.length * 3 := by
  induction gs with
  | nil => rfl
  | cons g t ih => simp only [gvals, List.flatMap_cons, List.length_append, List.length_cons, List.length_nil] at ih ⊢; omega
theorem gvals_one (gs : List Ga) : ∀ u ∈ gvals gs, u.oneCell' = true := by
  intro u hu
  obtain ⟨g, _, h⟩ := List.mem_flatMap.1 hu
  simp at h
  rcases h with rfl | rfl | rfl <;> rfl
theorem gvals_append (gs hs : List Ga) : gvals (gs ++ hs) = gvals gs ++ gvals hs := by simp [gvals]
theorem gvals_cell (gs : List Ga) : ∀ (k : Nat), k < gs.length → (gvals gs)[k * 3]? = some (.int .i64 (gs.getD k g0).1) ∧ (gvals gs)[k * 3 + 1]? = some (.int .i64 (gs.getD k g0).2.1) ∧ (gvals gs)[k * 3 + 2]? = some (.int .i64 (gs.getD k g0).2.2) := by
  induction gs with
  | nil => intro k hk; simp at hk
  | cons g t ih =>
    intro k hk
    match k with
    | 0 => exact ⟨rfl, rfl, rfl⟩
    | k + 1 =>
      have h := ih k (by simp at hk; omega)
      have e1 : (k + 1) * 3 = k * 3 + 3 := by omega
      rw [e1]
      exact h

/-- The slice of n gates at address A reads as gs. -/
def HasG (w : World) (A : Option Addr) (n : Nat) (gs : List Ga) : Prop :=
  gs.length = n ∧ (0 < n → ∃ ad : Addr, A = some ad ∧ ad.block < w.heap.size ∧ ∀ k, k < n → w.cell? (ad.add (k * 3)) = some (.int .i64 (gs.getD k g0).1) ∧ w.cell? ((ad.add (k * 3)).add 1) = some (.int .i64 (gs.getD k g0).2.1) ∧ w.cell? ((ad.add (k * 3)).add 2) = some (.int .i64 (gs.getD k g0).2.2))
/-- A row of the call's own, from block B on, that holds gs. -/
def OwnG (w : World) (B : Nat) (A : Option Addr) (n c : Nat) (gs : List Ga) : Prop :=
  gs.length = n ∧ w.ownsRow B 51 3 (.slice A n c) n (gvals gs)

section
variable {w w' : World} {A : Option Addr} {B B' n c : Nat} {gs : List Ga}
/-- A letter for each part of a gate; the cells in the form in which the walk asks for them. -/
theorem HasG.elem {k : Nat} (h : HasG w A n gs) (hk : k < n) : ∃ (ad : Addr) (x y z : Int), A = some ad ∧ w.cell? (ad.add (k * 3)) = some (.int .i64 x) ∧ w.cell? ⟨(ad.add (k * 3)).block, (ad.add (k * 3)).off + 1, none⟩ = some (.int .i64 y) ∧ w.cell? ⟨(ad.add (k * 3)).block, (ad.add (k * 3)).off + 2, none⟩ = some (.int .i64 z) ∧ Hid (gs.getD k g0 = (x, y, z)) := by
  obtain ⟨ad, e, _, hc⟩ := h.2 (by omega)
  exact ⟨ad, _, _, _, e, (hc k hk).1, (hc k hk).2.1, (hc k hk).2.2, rfl⟩
theorem HasG.keep (h : HasG w A n gs) (hs : w.heap.size ≤ w'.heap.size) (hk : ∀ ad : Addr, A = some ad → ad.block < w.heap.size → w'.heap[ad.block]? = w.heap[ad.block]?) : HasG w' A n gs :=
  ⟨h.1, fun hn => by
    obtain ⟨ad, rfl, hb, hc⟩ := h.2 hn
    refine ⟨ad, rfl, by omega, fun k hkn => ?_⟩
    have hq : ∀ j, w'.heap[(ad.add j).block]? = w.heap[(ad.add j).block]? := fun j => by rw [addBlock]; exact hk ad rfl hb
    have hq2 : ∀ j i, w'.heap[((ad.add j).add i).block]? = w.heap[((ad.add j).add i).block]? := fun j i => by rw [addBlock, addBlock]; exact hk ad rfl hb
    obtain ⟨h1, h2, h3⟩ := hc k hkn
    exact ⟨(World.cell?_of_block (hq _)).trans h1, (World.cell?_of_block (hq2 _ _)).trans h2, (World.cell?_of_block (hq2 _ _)).trans h3⟩⟩
theorem HasG.below (h : HasG w A n gs) (hb : Below w.heap.size w w') : HasG w' A n gs := h.keep hb.size fun _ _ hlt => hb.block _ hlt
theorem OwnG.has (h : OwnG w B A n c gs) : HasG w A n gs := by
  refine ⟨h.1, fun hn => ?_⟩
  obtain ⟨g, cap, hv, _, hlt⟩ := h.2.form hn
  have hA : A = some ⟨g, 0, none⟩ := by injection hv
  subst hA
  refine ⟨_, rfl, hlt, fun k hk => ?_⟩
  obtain ⟨h1, h2, h3⟩ := gvals_cell gs k (by rw [h.1]; exact hk)
  have e0 := h.2.cellAt (k * 3) (by omega)
  have e1 := h.2.cellAt (k * 3 + 1) (by omega)
  have e2 := h.2.cellAt (k * 3 + 2) (by omega)
  rw [addNone', addOff', addOff']
  exact ⟨e0.trans h1, e1.trans h2, e2.trans h3⟩
theorem OwnG.born (h : OwnG w B A n c gs) (ad : Addr) (e : A = some ad) : B ≤ ad.block ∧ ad.block < w.heap.size := by
  subst e
  exact h.2.lt ad.block rfl
theorem OwnG.kept (h : OwnG w B A n c gs) {row : Option Nat} (hg : w.grownBy w' row) (hne : ∀ ad : Addr, A = some ad → some ad.block ≠ row) : OwnG w' B A n c gs := by
  refine ⟨h.1, h.2.kept hg ?_⟩
  cases A with
  | none => exact .inl rfl
  | some ad => exact .inr (hne ad rfl)
theorem OwnG.below (h : OwnG w B A n c gs) (hb : Below w.heap.size w w') : OwnG w' B A n c gs := h.kept (grownOf hb none) (by simp)
theorem OwnG.mono (h : OwnG w B A n c gs) (hB : B' ≤ B) : OwnG w B' A n c gs := ⟨h.1, h.2.mono hB⟩
theorem OwnG.nil_ (w : World) (B : Nat) : OwnG w B none 0 0 [] := ⟨rfl, World.ownsRow_nil _ _ _ _⟩
end

theorem gput {w : World} {B e g n c k : Nat} {xs : List Value} {gs : List Ga} {x y z : Int} (ho : w.ownsRow B e 3 (.slice (some ⟨g, 0, none⟩) n c) n xs) (hk : k < n) (hl : gs.length = n) (hx : ∀ j, j < k * 3 → xs[j]? = (gvals gs)[j]?) (hg : gs.getD k g0 = (x, y, z)) :
    ∃ xs', (((w.setCell ⟨g, k * 3, none⟩ (.int .i64 x)).setCell ⟨g, k * 3 + 1, none⟩ (.int .i64 y)).setCell ⟨g, k * 3 + 2, none⟩ (.int .i64 z)).ownsRow B e 3 (.slice (some ⟨g, 0, none⟩) n c) n xs' ∧ ∀ j, j < (k + 1) * 3 → xs'[j]? = (gvals gs)[j]? := by
  have hxl : xs.length = n * 3 := ho.1
  refine ⟨_, ((((ho.stored (k * 3) _).1).stored (k * 3 + 1) _).1.stored (k * 3 + 2) _).1, fun j hj => ?_⟩
  obtain ⟨h1, h2, h3⟩ := gvals_cell gs k (by omega)
  rw [hg] at h1 h2 h3
  by_cases e2 : j = k * 3 + 2
  · subst e2
    rw [List.getElem?_set_self (by simp; omega)]
    exact h3.symm
  · rw [List.getElem?_set_ne (by omega)]
    by_cases e1 : j = k * 3 + 1
    · subst e1
      rw [List.getElem?_set_self (by simp; omega)]
      exact h2.symm
    · rw [List.getElem?_set_ne (by omega)]
      by_cases e0 : j = k * 3
      · subst e0
        rw [List.getElem?_set_self (by omega)]
        exact h1.symm
      · rw [List.getElem?_set_ne (by omega)]
        exact hx j (by omega)
theorem gcells {w : World} {B e g n c k : Nat} {xs : List Value} (ho : w.ownsRow B e 3 (.slice (some ⟨g, 0, none⟩) n c) n xs) (hk : k < n) :
    (∃ u, w.cell? ⟨g, k * 3, none⟩ = some u) ∧ (∃ u, w.cell? ⟨g, k * 3 + 1, none⟩ = some u) ∧ (∃ u, w.cell? ⟨g, k * 3 + 2, none⟩ = some u) := by
  have hxl : xs.length = n * 3 := ho.1
  have h : ∀ j, j < n * 3 → ∃ u, w.cell? ⟨g, j, none⟩ = some u := fun j hj => ⟨xs[j]'(by omega), by rw [ho.cellAt j hj]; exact List.getElem?_eq_getElem _⟩
  exact ⟨h _ (by omega), h _ (by omega), h _ (by omega)⟩

theorem infoGate : (Try.prog.info? 51).map (fun i => (i.zero, i.size, i.bytes)) = some (some (.agg #[.int .i64 0, .int .i64 0, .int .i64 0]), 3, 24) := by kernel_rfl

set_option maxHeartbeats 400000 in
theorem toGate_any (x y z : Int) (w : World) :
    Calls Try.prog 86 #[.agg #[.int .i64 x, .int .i64 y, .int .i64 z]] w fun e w' => e = .returned (.agg #[.int .i64 x, .int .i64 y, .int .i64 z]) ∧ Below w.heap.size w w' := by
  go_enter Try.func86, Try.ntmps86
  go_wp2_with fail
  refine bodyPost_ret (v := .agg #[.int .i64 x, .int .i64 y, .int .i64 z]) (by simp [results, Try.results86, go_sem]) rfl ⟨rfl, ?_⟩
  exact (((Below.refl _ w).alloc (Nat.le_refl _) _).alloc (by simp) _).alloc (by simp; omega) _

set_option maxHeartbeats 400000 in
theorem eqGate_same (x y z : Int) (w : World) :
    Calls Try.prog 88 #[.agg #[.int .i64 x, .int .i64 y, .int .i64 z], .agg #[.int .i64 x, .int .i64 y, .int .i64 z]] w fun e w' => e = .returned (.bool true) ∧ Below w.heap.size w w' := by
  go_enter Try.func88, Try.ntmps88
  go_wp2_with fail
  go_ret
  exact ⟨rfl, ((Below.refl _ w).alloc (Nat.le_refl _) _).alloc (by simp) _⟩

set_option maxHeartbeats 400000 in
theorem toGateS_any (A : Option Addr) (n c : Nat) (gs : List Ga) (w : World) (h : HasG w A n gs) (hn : n ≤ 16777216) :
    Calls Try.prog 42 #[.slice A n c] w fun e w' => ∃ A', e = .returned (.slice A' n n) ∧ OwnG w' w.heap.size A' n n gs ∧ Below w.heap.size w w' := by
  obtain ⟨i0, hi, hz0, hz1, hz2⟩ := info_parts infoGate
  have hvl : (gvals gs).length = n * 3 := by rw [gvals_length, h.1]
  go_enter Try.func42, Try.ntmps42
  go_wp2_with (at_make; refine wpList_make_full _ rfl _ _ 28 rfl w.heap.size 51 i0 (.agg #[.int .i64 0, .int .i64 0, .int .i64 0]) 3 Try.underlying28 hi hz0 hz1 .i64 .i64 _ _ n rfl rfl rfl rfl (by rw [hz2]; omega) (by simp only [maxLen]; omega) (Nat.le_refl _) ?_; intro w1 hown hgrow)
  have hb1 := belowOf hgrow
  go_loopw [4] (fun i wr => ∃ (k : Nat) (xs : List Value), k ≤ n ∧ i = .int .i64 k ∧ wr.ownsRow w.heap.size 51 3 (.slice (some ⟨w.heap.size, 0, none⟩) n n) n xs ∧ (∀ j, j < k * 3 → xs[j]? = (gvals gs)[j]?) ∧ Below w.heap.size w wr) (fun i _ => n - (intOf i).toNat)
  case atStart => exact ⟨0, _, Nat.zero_le _, rfl, hown, by intro j hj; omega, hb1⟩
  case round =>
    obtain ⟨k, xs, hk, rfl, ho, hxs, hbk⟩ := hrel
    by_cases hlt : k < n
    · obtain ⟨ad, x, y, z, rfl, hx, hy, hz, HE⟩ := (h.below hbk).elem hlt
      have HX := Lib.hid hxs
      clear hxs
      have k0 : (0 : Int) ≤ (k : Int) := by omega
      have k1 : (k : Int) < (n : Int) := by omega
      go_wp2_with fail
      refine (toGate_any x y z wr).mono ?_
      rintro e w2 ⟨rfl, b2⟩
      have ho2 : w2.ownsRow w.heap.size 51 3 (.slice (some ⟨w.heap.size, 0, none⟩) n n) n xs := ho.kept (grownOf b2 none) (.inr (by simp [Value.ownBlock]))
      obtain ⟨⟨u0, c0⟩, ⟨u1, c1⟩, ⟨u2, c2⟩⟩ := gcells ho2 hlt
      have f0 := ho2.frozenAt (k * 3)
      have f1 := ho2.frozenAt (k * 3 + 1)
      have f2 := ho2.frozenAt (k * 3 + 2)
      have B2 := hbk.trans (b2.mono hbk.size)
      clear ho hx hy hz
      go_wp2
      obtain ⟨xs', ho3, hx3⟩ := gput ho2 hlt h.1 HX.out HE.out
      go_roundw
      case rel => exact ⟨k + 1, xs', by omega, by go_num, ho3, hx3, ((B2.setCell (Nat.le_refl _) _).setCell (Nat.le_refl _) _).setCell (Nat.le_refl _) _⟩
      case measure => simp [intOf]; omega
    · obtain rfl : k = n := by omega
      go_wp2
      go_ret
      refine ⟨some ⟨w.heap.size, 0, none⟩, rfl, ⟨h.1, ?_⟩, hbk⟩
      have hxl : xs.length = k * 3 := ho.1
      have e : xs = gvals gs := by
        apply List.ext_getElem?
        intro j
        by_cases hj : j < k * 3
        · exact hxs j hj
        · rw [List.getElem?_eq_none (by omega), List.getElem?_eq_none (by omega)]
      rw [← e]
      exact ho

end Go.Proofs.Ytaohgbkhmgfnhaa
