/- Several texts in one: Cir1, Cir2, Cir3, Cir4, Cir5. What each says stands at its head. -/
import Derived.Test.YteiibneaihdmbaaHelp
import Derived.Test.YteiibneaihdmbaaGen2
import Derived.StillTailTactics
import Derived.Test.YteiibneaihdmbaaGen1
import Derived.Lib.SmallJoins
import Derived.Test.YteiibneaihdmbaaClose
import Derived.Deep.Slices

/- What the helpers of the exact laws do with a gate and with a list of gates: copy it, compare two, write marks, look whether the marks are still there. For lists of at most 1048576 gates. -/
namespace Go.Proofs.Yteiibneaihdmbaa
open Go.RowKit
set_option maxRecDepth 100000


/-- A gate: its kind and its two wires. -/
abbrev Ga : Type := Int × Int × Int
def g0 : Ga := (0, 0, 0)
/-- The cells that hold a list of gates. -/
def gvals (gs : List Ga) : List Value := gs.flatMap fun g => [Value.int .i64 g.1, Value.int .i64 g.2.1, Value.int .i64 g.2.2]
theorem gvals_length (gs : List Ga) : (gvals gs).length = gs.length * 3 := by
  induction gs with
  | nil => rfl
  | cons g t ih => simp only [gvals, List.flatMap_cons, List.length_append, List.length_cons, List.length_nil] at ih ⊢; omega
theorem gvals_one (gs : List Ga) : ∀ u ∈ gvals gs, u.oneCell' = true := by
  intro u hu
  obtain ⟨g, _, h⟩ := List.mem_flatMap.1 hu
  simp at h
  rcases h with rfl | rfl | rfl <;> rfl
theorem gvals_append (gs hs : List Ga) : gvals (gs ++ hs) = gvals gs ++ gvals hs := by simp [gvals]
theorem gvals_cell (gs : List Ga) : ∀ (k : Nat), k < gs.length → (gvals gs)[k * 3]? = some (.int .i64 (gs.getD k g0).1) ∧ (gvals gs)[k * 3 + 1]? = some (.int .i64 (gs.getD k g0).2.1) ∧ (gvals gs)[k * 3 + 2]? = some (.int .i64 (gs.getD k g0).2.2) := by
  induction gs with
  | nil => intro k hk; simp at hk
  | cons g t ih =>
    intro k hk
    match k with
    | 0 => exact ⟨rfl, rfl, rfl⟩
    | k + 1 =>
      have h := ih k (by simp at hk; omega)
      have e1 : (k + 1) * 3 = k * 3 + 3 := by omega
      rw [e1]
      exact h

/-- The slice of n gates at address A reads as gs. -/
def HasG (w : World) (A : Option Addr) (n : Nat) (gs : List Ga) : Prop :=
  gs.length = n ∧ (0 < n → ∃ ad : Addr, A = some ad ∧ ad.block < w.heap.size ∧ ∀ k, k < n → w.cell? (ad.add (k * 3)) = some (.int .i64 (gs.getD k g0).1) ∧ w.cell? ((ad.add (k * 3)).add 1) = some (.int .i64 (gs.getD k g0).2.1) ∧ w.cell? ((ad.add (k * 3)).add 2) = some (.int .i64 (gs.getD k g0).2.2))
/-- A row of the call's own, from block B on, that holds gs. -/
def OwnG (w : World) (B : Nat) (A : Option Addr) (n c : Nat) (gs : List Ga) : Prop :=
  gs.length = n ∧ w.ownsRow B 69 3 (.slice A n c) n (gvals gs)

section
variable {w w' : World} {A : Option Addr} {B B' n c : Nat} {gs : List Ga}
/-- A letter for each part of a gate; the cells in the form in which the walk asks for them. -/
theorem HasG.elem {k : Nat} (h : HasG w A n gs) (hk : k < n) : ∃ (ad : Addr) (x y z : Int), A = some ad ∧ w.cell? (ad.add (k * 3)) = some (.int .i64 x) ∧ w.cell? ⟨(ad.add (k * 3)).block, (ad.add (k * 3)).off + 1, none⟩ = some (.int .i64 y) ∧ w.cell? ⟨(ad.add (k * 3)).block, (ad.add (k * 3)).off + 2, none⟩ = some (.int .i64 z) ∧ Hid (gs.getD k g0 = (x, y, z)) := by
  obtain ⟨ad, e, _, hc⟩ := h.2 (by omega)
  exact ⟨ad, _, _, _, e, (hc k hk).1, (hc k hk).2.1, (hc k hk).2.2, rfl⟩
theorem HasG.keep (h : HasG w A n gs) (hs : w.heap.size ≤ w'.heap.size) (hk : ∀ ad : Addr, A = some ad → ad.block < w.heap.size → w'.heap[ad.block]? = w.heap[ad.block]?) : HasG w' A n gs :=
  ⟨h.1, fun hn => by
    obtain ⟨ad, rfl, hb, hc⟩ := h.2 hn
    refine ⟨ad, rfl, by omega, fun k hkn => ?_⟩
    have hq : ∀ j, w'.heap[(ad.add j).block]? = w.heap[(ad.add j).block]? := fun j => by rw [addBlock]; exact hk ad rfl hb
    have hq2 : ∀ j i, w'.heap[((ad.add j).add i).block]? = w.heap[((ad.add j).add i).block]? := fun j i => by rw [addBlock, addBlock]; exact hk ad rfl hb
    obtain ⟨h1, h2, h3⟩ := hc k hkn
    exact ⟨(World.cell?_of_block (hq _)).trans h1, (World.cell?_of_block (hq2 _ _)).trans h2, (World.cell?_of_block (hq2 _ _)).trans h3⟩⟩
theorem HasG.below (h : HasG w A n gs) (hb : Below w.heap.size w w') : HasG w' A n gs := h.keep hb.size fun _ _ hlt => hb.block _ hlt
theorem OwnG.has (h : OwnG w B A n c gs) : HasG w A n gs := by
  refine ⟨h.1, fun hn => ?_⟩
  obtain ⟨g, cap, hv, _, hlt⟩ := h.2.form hn
  have hA : A = some ⟨g, 0, none⟩ := by injection hv
  subst hA
  refine ⟨_, rfl, hlt, fun k hk => ?_⟩
  obtain ⟨h1, h2, h3⟩ := gvals_cell gs k (by rw [h.1]; exact hk)
  have e0 := h.2.cellAt (k * 3) (by omega)
  have e1 := h.2.cellAt (k * 3 + 1) (by omega)
  have e2 := h.2.cellAt (k * 3 + 2) (by omega)
  rw [addNone', addOff', addOff']
  exact ⟨e0.trans h1, e1.trans h2, e2.trans h3⟩
theorem OwnG.born (h : OwnG w B A n c gs) (ad : Addr) (e : A = some ad) : B ≤ ad.block ∧ ad.block < w.heap.size := by
  subst e
  exact h.2.lt ad.block rfl
theorem OwnG.kept (h : OwnG w B A n c gs) {row : Option Nat} (hg : w.grownBy w' row) (hne : ∀ ad : Addr, A = some ad → some ad.block ≠ row) : OwnG w' B A n c gs := by
  refine ⟨h.1, h.2.kept hg ?_⟩
  cases A with
  | none => exact .inl rfl
  | some ad => exact .inr (hne ad rfl)
theorem OwnG.below (h : OwnG w B A n c gs) (hb : Below w.heap.size w w') : OwnG w' B A n c gs := h.kept (grownOf hb none) (by simp)
theorem OwnG.mono (h : OwnG w B A n c gs) (hB : B' ≤ B) : OwnG w B' A n c gs := ⟨h.1, h.2.mono hB⟩
theorem OwnG.nil_ (w : World) (B : Nat) : OwnG w B none 0 0 [] := ⟨rfl, World.ownsRow_nil _ _ _ _⟩
end

theorem gput {w : World} {B e g n c k : Nat} {xs : List Value} {gs : List Ga} {x y z : Int} (ho : w.ownsRow B e 3 (.slice (some ⟨g, 0, none⟩) n c) n xs) (hk : k < n) (hl : gs.length = n) (hx : ∀ j, j < k * 3 → xs[j]? = (gvals gs)[j]?) (hg : gs.getD k g0 = (x, y, z)) :
    ∃ xs', (((w.setCell ⟨g, k * 3, none⟩ (.int .i64 x)).setCell ⟨g, k * 3 + 1, none⟩ (.int .i64 y)).setCell ⟨g, k * 3 + 2, none⟩ (.int .i64 z)).ownsRow B e 3 (.slice (some ⟨g, 0, none⟩) n c) n xs' ∧ ∀ j, j < (k + 1) * 3 → xs'[j]? = (gvals gs)[j]? := by
  have hxl : xs.length = n * 3 := ho.1
  refine ⟨_, ((((ho.stored (k * 3) _).1).stored (k * 3 + 1) _).1.stored (k * 3 + 2) _).1, fun j hj => ?_⟩
  obtain ⟨h1, h2, h3⟩ := gvals_cell gs k (by omega)
  rw [hg] at h1 h2 h3
  by_cases e2 : j = k * 3 + 2
  · subst e2
    rw [List.getElem?_set_self (by simp; omega)]
    exact h3.symm
  · rw [List.getElem?_set_ne (by omega)]
    by_cases e1 : j = k * 3 + 1
    · subst e1
      rw [List.getElem?_set_self (by simp; omega)]
      exact h2.symm
    · rw [List.getElem?_set_ne (by omega)]
      by_cases e0 : j = k * 3
      · subst e0
        rw [List.getElem?_set_self (by omega)]
        exact h1.symm
      · rw [List.getElem?_set_ne (by omega)]
        exact hx j (by omega)
theorem gcells {w : World} {B e g n c k : Nat} {xs : List Value} (ho : w.ownsRow B e 3 (.slice (some ⟨g, 0, none⟩) n c) n xs) (hk : k < n) :
    (∃ u, w.cell? ⟨g, k * 3, none⟩ = some u) ∧ (∃ u, w.cell? ⟨g, k * 3 + 1, none⟩ = some u) ∧ (∃ u, w.cell? ⟨g, k * 3 + 2, none⟩ = some u) := by
  have hxl : xs.length = n * 3 := ho.1
  have h : ∀ j, j < n * 3 → ∃ u, w.cell? ⟨g, j, none⟩ = some u := fun j hj => ⟨xs[j]'(by omega), by rw [ho.cellAt j hj]; exact List.getElem?_eq_getElem _⟩
  exact ⟨h _ (by omega), h _ (by omega), h _ (by omega)⟩

theorem infoGate : (Try.prog.info? 69).map (fun i => (i.zero, i.size, i.bytes)) = some (some (.agg #[.int .i64 0, .int .i64 0, .int .i64 0]), 3, 24) := by kernel_rfl

set_option maxHeartbeats 400000 in
theorem toGate_any (x y z : Int) (w : World) :
    Calls Try.prog 116 #[.agg #[.int .i64 x, .int .i64 y, .int .i64 z]] w fun e w' => e = .returned (.agg #[.int .i64 x, .int .i64 y, .int .i64 z]) ∧ Below w.heap.size w w' := by
  go_enter Try.func116, Try.ntmps116
  go_wp2_with fail
  refine bodyPost_ret (v := .agg #[.int .i64 x, .int .i64 y, .int .i64 z]) (by simp [results, Try.results116, go_sem]) rfl ⟨rfl, ?_⟩
  exact (((Below.refl _ w).alloc (Nat.le_refl _) _).alloc (by simp) _).alloc (by simp; omega) _

set_option maxHeartbeats 400000 in
theorem eqGate_same (x y z : Int) (w : World) :
    Calls Try.prog 124 #[.agg #[.int .i64 x, .int .i64 y, .int .i64 z], .agg #[.int .i64 x, .int .i64 y, .int .i64 z]] w fun e w' => e = .returned (.bool true) ∧ Below w.heap.size w w' := by
  go_enter Try.func124, Try.ntmps124
  go_wp2_with fail
  go_ret
  exact ⟨rfl, ((Below.refl _ w).alloc (Nat.le_refl _) _).alloc (by simp) _⟩

set_option maxHeartbeats 400000 in
theorem toGateS_any (A : Option Addr) (n c : Nat) (gs : List Ga) (w : World) (h : HasG w A n gs) (hn : n ≤ 16777216) :
    Calls Try.prog 64 #[.slice A n c] w fun e w' => ∃ A', e = .returned (.slice A' n n) ∧ OwnG w' w.heap.size A' n n gs ∧ Below w.heap.size w w' := by
  obtain ⟨i0, hi, hz0, hz1, hz2⟩ := info_parts infoGate
  have hvl : (gvals gs).length = n * 3 := by rw [gvals_length, h.1]
  go_enter Try.func64, Try.ntmps64
  go_wp2_with (at_make; refine wpList_make_full _ rfl _ _ 27 rfl w.heap.size 69 i0 (.agg #[.int .i64 0, .int .i64 0, .int .i64 0]) 3 Try.underlying27 hi hz0 hz1 .i64 .i64 _ _ n rfl rfl rfl rfl (by rw [hz2]; omega) (by simp only [maxLen]; omega) (Nat.le_refl _) ?_; intro w1 hown hgrow)
  have hb1 := belowOf hgrow
  go_loopw [4] (fun i wr => ∃ (k : Nat) (xs : List Value), k ≤ n ∧ i = .int .i64 k ∧ wr.ownsRow w.heap.size 69 3 (.slice (some ⟨w.heap.size, 0, none⟩) n n) n xs ∧ (∀ j, j < k * 3 → xs[j]? = (gvals gs)[j]?) ∧ Below w.heap.size w wr) (fun i _ => n - (intOf i).toNat)
  case atStart => exact ⟨0, _, Nat.zero_le _, rfl, hown, by intro j hj; omega, hb1⟩
  case round =>
    obtain ⟨k, xs, hk, rfl, ho, hxs, hbk⟩ := hrel
    by_cases hlt : k < n
    · obtain ⟨ad, x, y, z, rfl, hx, hy, hz, HE⟩ := (h.below hbk).elem hlt
      have HX := Lib.hid hxs
      clear hxs
      have k0 : (0 : Int) ≤ (k : Int) := by omega
      have k1 : (k : Int) < (n : Int) := by omega
      go_wp2_with fail
      refine (toGate_any x y z wr).mono ?_
      rintro e w2 ⟨rfl, b2⟩
      have ho2 : w2.ownsRow w.heap.size 69 3 (.slice (some ⟨w.heap.size, 0, none⟩) n n) n xs := ho.kept (grownOf b2 none) (.inr (by simp [Value.ownBlock]))
      obtain ⟨⟨u0, c0⟩, ⟨u1, c1⟩, ⟨u2, c2⟩⟩ := gcells ho2 hlt
      have f0 := ho2.frozenAt (k * 3)
      have f1 := ho2.frozenAt (k * 3 + 1)
      have f2 := ho2.frozenAt (k * 3 + 2)
      have B2 := hbk.trans (b2.mono hbk.size)
      clear ho hx hy hz
      go_wp2
      obtain ⟨xs', ho3, hx3⟩ := gput ho2 hlt h.1 HX.out HE.out
      go_roundw
      case rel => exact ⟨k + 1, xs', by omega, by go_num, ho3, hx3, ((B2.setCell (Nat.le_refl _) _).setCell (Nat.le_refl _) _).setCell (Nat.le_refl _) _⟩
      case measure => simp [intOf]; omega
    · obtain rfl : k = n := by omega
      go_wp2
      go_ret
      refine ⟨some ⟨w.heap.size, 0, none⟩, rfl, ⟨h.1, ?_⟩, hbk⟩
      have hxl : xs.length = k * 3 := ho.1
      have e : xs = gvals gs := by
        apply List.ext_getElem?
        intro j
        by_cases hj : j < k * 3
        · exact hxs j hj
        · rw [List.getElem?_eq_none (by omega), List.getElem?_eq_none (by omega)]
      rw [← e]
      exact ho

end Go.Proofs.Yteiibneaihdmbaa

/- The comparison, the marks and the size of a list of gates, in the exact laws. For lists of at most 1048576 gates. -/
namespace Go.Proofs.Yteiibneaihdmbaa
open Go.RowKit
set_option maxRecDepth 100000


set_option maxHeartbeats 400000 in
theorem szGateS_any (A : Option Addr) (n c : Nat) (x : Int) (w : World) (hx0 : 0 ≤ x) (hx : x ≤ 1048576) (hn : (n : Int) ≤ 9223372036854775807) :
    Calls Try.prog 56 #[.slice A n c, .int .i64 x] w fun e w' => e = .returned (.int .i64 (if x - n < 0 then -1 else x - n)) ∧ w = w' := by
  have hw : IntKind.i64.wrap (x - (n : Int)) = x - n := wrapIn (by omega) (by omega)
  by_cases h : x - n < 0
  · rw [if_pos h]
    go_enter Try.func56, Try.ntmps56
    go_wp2
    go_ret
    exact ⟨rfl, rfl⟩
  · rw [if_neg h]
    go_enter Try.func56, Try.ntmps56
    go_wp2
    go_ret
    exact ⟨rfl, rfl⟩

set_option maxRecDepth 100000 in
set_option maxHeartbeats 400000 in
theorem eqGateS_same (A B : Option Addr) (n n' c d : Nat) (gs : List Ga) (w : World) (ha : HasG w A n gs) (hb : HasG w B n' gs) (hn : n ≤ 16777216) :
    Calls Try.prog 72 #[.slice A n c, .slice B n' d] w fun e w' => e = .returned (.bool true) ∧ Below w.heap.size w w' := by
  obtain rfl : n = n' := ha.1.symm.trans hb.1
  go_enter Try.func72, Try.ntmps72
  go_wp2
  go_loopw [5] (fun i wr => ∃ k : Nat, k ≤ n ∧ i = .int .i64 k ∧ Below w.heap.size w wr) (fun i _ => n - (intOf i).toNat)
  case atStart => exact ⟨0, Nat.zero_le _, rfl, Below.refl _ _⟩
  case round =>
    obtain ⟨k, hk, rfl, hbk⟩ := hrel
    by_cases hlt : k < n
    · obtain ⟨ad, x, y, z, rfl, hx, hy, hz, HE⟩ := (ha.below hbk).elem hlt
      obtain ⟨bd, x', y', z', rfl, hx', hy', hz', HE'⟩ := (hb.below hbk).elem hlt
      obtain ⟨rfl, rfl, rfl⟩ : x' = x ∧ y' = y ∧ z' = z := by
        have e := HE.out.symm.trans HE'.out
        injection e with e1 e2
        injection e2 with e2 e3
        exact ⟨e1.symm, e2.symm, e3.symm⟩
      have k0 : (0 : Int) ≤ (k : Int) := by omega
      have k1 : (k : Int) < (n : Int) := by omega
      go_wp2_with fail
      go_still_tail 8, (by kernel_rfl)
      change wpList _ _ _ _ _ wr.drew
      have b2 : Below w.heap.size w wr.drew := ⟨hbk.os, hbk.tape, hbk.output, hbk.size, hbk.block⟩
      generalize wr.drew = w2 at b2 ⊢
      clear hx hy hz hx' hy' hz'
      go_wp2_with fail
      refine (eqGate_same x' y' z' w2).mono ?_
      rintro e w3 ⟨rfl, b3⟩
      go_wp2_with fail
      go_roundw
      case rel => exact ⟨k + 1, by omega, by go_num, b2.trans (b3.mono b2.size)⟩
      case measure => simp [intOf]; omega
    · go_wp2
      go_ret
      exact ⟨rfl, hbk⟩

/-- The marks m, m + 1, .. in the cells of n gates. -/
def gmarks (m : Int) (n : Nat) : List Ga := (List.range n).map fun (j : Nat) => (m + 3 * (j : Int), m + 3 * (j : Int) + 1, m + 3 * (j : Int) + 2)
theorem gmarks_length (m : Int) (n : Nat) : (gmarks m n).length = n := by simp [gmarks]
theorem gmarks_at (m : Int) (n k : Nat) (h : k < n) : (gmarks m n).getD k g0 = (m + 3 * (k : Int), m + 3 * (k : Int) + 1, m + 3 * (k : Int) + 2) := by
  simp [gmarks, List.getD, h]

set_option maxHeartbeats 1000000 in
theorem markGateS_any (A : Option Addr) (B n c : Nat) (m : Int) (gs : List Ga) (w : World) (h : OwnG w B A n c gs) (hn : n ≤ 1048576) (hm0 : 0 ≤ m) (hm1 : m ≤ 16777216) :
    Calls Try.prog 73 #[.slice A n c, .int .i64 m] w fun e w' => e = .returned (.int .i64 (m + 3 * (n : Int))) ∧ OwnG w' B A n c (gmarks m n) ∧ w.grownBy w' (blockOf A) := by
  go_enter Try.func73, Try.ntmps73
  go_wp2
  go_loopw [1, 5] (fun q i wr => ∃ (k : Nat) (xs : List Value), k ≤ n ∧ i = .int .i64 k ∧ q = .int .i64 (m + 3 * (k : Int)) ∧ wr.ownsRow B 69 3 (.slice A n c) n xs ∧ (∀ j, j < k * 3 → xs[j]? = (gvals (gmarks m n))[j]?) ∧ w.grownBy wr (blockOf A)) (fun _ i _ => n - (intOf i).toNat)
  case atStart => exact ⟨0, _, Nat.zero_le _, rfl, by simp, h.2, by intro j hj; omega, World.grownBy.refl _ _⟩
  case round =>
    obtain ⟨k, xs, hk, rfl, rfl, ho, hxs, hgk⟩ := hrel
    by_cases hlt : k < n
    · obtain ⟨g, cap, hv, _, _⟩ := ho.form (by omega)
      obtain rfl : A = some ⟨g, 0, none⟩ := by injection hv
      obtain rfl : c = cap := by injection hv
      have HX := Lib.hid hxs
      clear hxs hv
      obtain ⟨⟨u0, c0⟩, ⟨u1, c1⟩, ⟨u2, c2⟩⟩ := gcells ho hlt
      have f0 := ho.frozenAt (k * 3)
      have f1 := ho.frozenAt (k * 3 + 1)
      have f2 := ho.frozenAt (k * 3 + 2)
      have k0 : (0 : Int) ≤ (k : Int) := by omega
      have k1 : (k : Int) < (n : Int) := by omega
      have w0 : IntKind.i64.wrap (m + 3 * (k : Int) + 1) = m + 3 * (k : Int) + 1 := wrapIn (by omega) (by omega)
      have w1 : IntKind.i64.wrap (m + 3 * (k : Int) + 1 + 1) = m + 3 * (k : Int) + 2 := by rw [wrapIn (by omega) (by omega)]; omega
      have w2 : IntKind.i64.wrap (m + 3 * (k : Int) + 2 + 1) = m + 3 * ((k + 1 : Nat) : Int) := by rw [wrapIn (by omega) (by omega)]; push_cast; omega
      go_wp2_with fail
      obtain ⟨xs', ho3, hx3⟩ := gput ho hlt (gmarks_length m n) HX.out (gmarks_at m n k hlt)
      go_roundw
      case rel => exact ⟨k + 1, xs', by omega, by go_num, rfl, ho3, hx3, grown_setCell (grown_setCell (grown_setCell hgk _ _) _ _) _ _⟩
      case measure => simp [intOf]; omega
    · obtain rfl : k = n := by omega
      go_wp2
      go_ret
      refine ⟨rfl, ⟨gmarks_length m k, ?_⟩, hgk⟩
      have hxl : xs.length = k * 3 := ho.1
      have e : xs = gvals (gmarks m k) := by
        apply List.ext_getElem?
        intro j
        by_cases hj : j < k * 3
        · exact hxs j hj
        · rw [List.getElem?_eq_none (by omega), List.getElem?_eq_none (by rw [gvals_length, gmarks_length]; omega)]
      rw [← e]
      exact ho

set_option maxHeartbeats 1000000 in
theorem heldGateS_any (A : Option Addr) (n c : Nat) (m : Int) (w : World) (h : HasG w A n (gmarks m n)) (hn : n ≤ 1048576) (hm0 : 0 ≤ m) (hm1 : m ≤ 16777216) :
    Calls Try.prog 74 #[.slice A n c, .int .i64 m] w fun e w' => e = .returned (.int .i64 (m + 3 * (n : Int))) ∧ w = w' := by
  go_enter Try.func74, Try.ntmps74
  go_wp2
  go_loop [1, 5] (fun q i => ∃ k : Nat, k ≤ n ∧ i = .int .i64 k ∧ q = .int .i64 (m + 3 * (k : Int))) (fun _ i => n - (intOf i).toNat)
  case atStart => exact ⟨0, Nat.zero_le _, rfl, by simp⟩
  case round =>
    obtain ⟨k, hk, rfl, rfl⟩ := hrel
    by_cases hlt : k < n
    · obtain ⟨ad, x, y, z, rfl, hx, hy, hz, HE⟩ := h.elem hlt
      obtain ⟨rfl, rfl, rfl⟩ : x = m + 3 * (k : Int) ∧ y = m + 3 * (k : Int) + 1 ∧ z = m + 3 * (k : Int) + 2 := by
        have e := HE.out.symm.trans (gmarks_at m n k hlt)
        injection e with e1 e2
        injection e2 with e2 e3
        exact ⟨e1, e2, e3⟩
      have k0 : (0 : Int) ≤ (k : Int) := by omega
      have k1 : (k : Int) < (n : Int) := by omega
      have w0 : IntKind.i64.wrap (m + 3 * (k : Int) + 1) = m + 3 * (k : Int) + 1 := wrapIn (by omega) (by omega)
      have w1 : IntKind.i64.wrap (m + 3 * (k : Int) + 1 + 1) = m + 3 * (k : Int) + 2 := by rw [wrapIn (by omega) (by omega)]; omega
      have w2 : IntKind.i64.wrap (m + 3 * (k : Int) + 2 + 1) = m + 3 * ((k + 1 : Nat) : Int) := by rw [wrapIn (by omega) (by omega)]; push_cast; omega
      go_wp2_with fail
      go_round
      case rel => exact ⟨k + 1, by omega, by go_num, rfl⟩
      case measure => simp [intOf]; omega
    · obtain rfl : k = n := by omega
      go_wp2
      go_ret
      exact ⟨rfl, rfl⟩

end Go.Proofs.Yteiibneaihdmbaa

/- A circuit in memory: one that reads as given, one whose lists lie in rows of their own; and what the exact laws' helpers do with circuits: copy, size, comparison, marks. For lists of at most 1048576 elements. -/
namespace Go.Proofs.Yteiibneaihdmbaa
open Go.RowKit
set_option maxRecDepth 100000


/-- A circuit: its inputs of both parties, its gates, its outs. -/
structure Ci where
  in0 : Int
  in1 : Int
  gs : List Ga
  os : List Int

def cv (x y : Int) (G : Option Addr) (n c : Nat) (O : Option Addr) (m d : Nat) : Value := .agg #[.int .i64 x, .int .i64 y, .slice G n c, .slice O m d]

/-- The value v reads as the circuit C. -/
def HasC (w : World) (v : Value) (C : Ci) : Prop :=
  ∃ G n c O m d, v = .agg #[.int .i64 C.in0, .int .i64 C.in1, .slice G n c, .slice O m d] ∧ HasG w G n C.gs ∧ Has w O m C.os ∧ n ≤ c ∧ m ≤ d ∧ NilOk G n c ∧ NilOk O m d
/-- The same, and its lists lie in rows of the call's own, from block B on. -/
def OwnC (w : World) (B : Nat) (v : Value) (C : Ci) : Prop :=
  ∃ G n c O m d, v = .agg #[.int .i64 C.in0, .int .i64 C.in1, .slice G n c, .slice O m d] ∧ OwnG w B G n c C.gs ∧ Own w B O m d C.os

section
variable {w w' : World} {v : Value} {C : Ci} {B B' S T n c m d : Nat} {A O : Option Addr} {gs : List Ga} {zs : List Int}
theorem OwnG.capLe (h : OwnG w B A n c gs) : n ≤ c := by
  rcases h.2.2 with ⟨hv, h0⟩ | ⟨g, cap, cur, hv, _, _, hnc, _⟩
  · omega
  · injection hv with _ _ hc
    omega
theorem OwnG.nilOk (h : OwnG w B A n c gs) : NilOk A n c := by
  intro e
  subst e
  rcases h.2.2 with ⟨hv, h0⟩ | ⟨g, cap, cur, hv, _⟩
  · injection hv with _ _ hc
    exact ⟨h0, hc⟩
  · injection hv with ha
    cases ha
theorem HasC.below (h : HasC w v C) (hb : Below w.heap.size w w') : HasC w' v C := by
  obtain ⟨G, n, c, O, m, d, e, h1, h2, h3⟩ := h
  exact ⟨G, n, c, O, m, d, e, h1.below hb, h2.below hb, h3⟩
theorem OwnC.below (h : OwnC w B v C) (hb : Below w.heap.size w w') : OwnC w' B v C := by
  obtain ⟨G, n, c, O, m, d, e, h1, h2⟩ := h
  exact ⟨G, n, c, O, m, d, e, h1.below hb, h2.below hb⟩
theorem OwnC.mono (h : OwnC w B v C) (hB : B' ≤ B) : OwnC w B' v C := by
  obtain ⟨G, n, c, O, m, d, e, h1, h2⟩ := h
  exact ⟨G, n, c, O, m, d, e, h1.mono hB, h2.mono hB⟩
theorem OwnC.has (h : OwnC w B v C) : HasC w v C := by
  obtain ⟨G, n, c, O, m, d, e, h1, h2⟩ := h
  exact ⟨G, n, c, O, m, d, e, h1.has, h2.has, h1.capLe, h2.capLe, h1.nilOk, own_nilOk h2⟩
theorem OwnG.span (h : OwnG w B A n c gs) (hs : Span S T w w') (hT : T ≤ B) : OwnG w' B A n c gs := by
  refine ⟨h.1, ?_⟩
  rcases h.2 with ⟨h1, h2⟩
  refine ⟨h1, ?_⟩
  rcases h2 with h2 | ⟨g, cap, cur, e, hb, hg, h5, h6, h7, h8⟩
  · exact .inl h2
  · refine .inr ⟨g, cap, cur, e, hb, ?_, h5, h6, h7, h8⟩
    rw [hs.block g (by have := (Array.getElem?_eq_some_iff.1 hg).1; exact this) (.inr (by omega))]
    exact hg
theorem OwnC.span (h : OwnC w B v C) (hs : Span S T w w') (hT : T ≤ B) : OwnC w' B v C := by
  obtain ⟨G, n, c, O, m, d, e, h1, h2⟩ := h
  exact ⟨G, n, c, O, m, d, e, h1.span hs hT, h2.span hs hT⟩
/-- A row of gates and a row of integers never share a block. -/
theorem ownApart (h1 : OwnG w B A n c gs) (h2 : Own w B' O m d zs) : ∀ a b : Addr, A = some a → O = some b → a.block ≠ b.block := by
  rintro a b rfl rfl e
  rcases h1.2.2 with ⟨hv, _⟩ | ⟨g, cap, cur, hv, _, hg, _⟩
  · cases hv
  · rcases h2.2.2 with ⟨hv2, _⟩ | ⟨g2, cap2, cur2, hv2, _, hg2, _⟩
    · cases hv2
    · injection hv with e1
      injection hv2 with e2
      injection e1 with e1
      injection e2 with e2
      rw [e1, e2] at e
      have e' : g = g2 := e
      subst e'
      rw [hg] at hg2
      injection hg2 with e3
      injection e3 with _ e4
      exact absurd e4 (by decide)
end

/-- The size of a circuit that came in: what is left of x. -/
def leftOf (C : Ci) (x : Int) : Int := if x - C.gs.length < 0 then -1 else if x - C.gs.length - C.os.length < 0 then -1 else x - C.gs.length - C.os.length

set_option maxHeartbeats 1000000 in
theorem szCircuit_any (a b : Int) (G : Option Addr) (n c : Nat) (O : Option Addr) (m d : Nat) (C : Ci) (x : Int) (w : World) (hg : C.gs.length = n) (ho : C.os.length = m) (hx0 : 0 ≤ x) (hx : x ≤ 1048576) (hn : n ≤ maxLen) (hm : m ≤ maxLen) :
    Calls Try.prog 15 #[.agg #[.int .i64 a, .int .i64 b, .slice G n c, .slice O m d], .int .i64 x] w fun e w' => e = .returned (.int .i64 (leftOf C x)) ∧ Below w.heap.size w w' := by
  unfold maxLen at hn hm
  have B1 := belowNew w (.cells #[.int .i64 a, .int .i64 b, .slice G n c, .slice O m d] 25)
  have H1 := Lib.hid (fun w => szGateS_any G n c x w hx0 hx (by omega))
  by_cases h : x - n < 0
  · have e : leftOf C x = -1 := by rw [leftOf, hg, if_pos h]
    rw [e]
    go_enter Try.func15, Try.ntmps15
    go_wp2_with fail
    refine (H1.out _).mono ?_
    rintro e w1 ⟨rfl, rfl⟩
    rw [if_pos h]
    go_wp2_with fail
    go_ret
    exact ⟨rfl, B1⟩
  · have hh := Lib.hid h
    have H2 := Lib.hid (fun w => szIntS_any O m d (x - n) w (by omega) (by omega) (by omega))
    by_cases h2 : x - n - m < 0
    · have e : leftOf C x = -1 := by rw [leftOf, hg, ho, if_neg h, if_pos h2]
      rw [e]
      go_enter Try.func15, Try.ntmps15
      go_wp2_with fail
      refine (H1.out _).mono ?_
      rintro e w1 ⟨rfl, rfl⟩
      rw [if_neg (Int.not_lt.2 hh.out)]
      go_wp2_with fail
      refine (H2.out _).mono ?_
      rintro e w1 ⟨rfl, rfl⟩
      rw [if_pos h2]
      go_wp2_with fail
      go_ret
      exact ⟨rfl, B1⟩
    · have hh2 := Lib.hid h2
      have e : leftOf C x = x - n - m := by rw [leftOf, hg, ho, if_neg h, if_neg h2]
      rw [e]
      go_enter Try.func15, Try.ntmps15
      go_wp2_with fail
      refine (H1.out _).mono ?_
      rintro e w1 ⟨rfl, rfl⟩
      rw [if_neg (Int.not_lt.2 hh.out)]
      go_wp2_with fail
      refine (H2.out _).mono ?_
      rintro e w1 ⟨rfl, rfl⟩
      rw [if_neg (Int.not_lt.2 hh2.out)]
      go_wp2_with fail
      go_ret
      exact ⟨rfl, B1⟩

set_option maxHeartbeats 1000000 in
theorem toCircuit_any (v : Value) (C : Ci) (w : World) (h : HasC w v C) (hn : C.gs.length ≤ 1048576) (hm : C.os.length ≤ 1048576) :
    Calls Try.prog 17 #[v] w fun e w' => ∃ v', e = .returned v' ∧ OwnC w' w.heap.size v' C ∧ Below w.heap.size w w' := by
  obtain ⟨G, n, c, O, m, d, rfl, hG, hO, _, _, _, _⟩ := h
  have hgl := hG.1
  have hol := hO.1
  obtain ⟨x, y, gs, os⟩ := C
  show Calls Try.prog 17 #[.agg #[.int .i64 x, .int .i64 y, .slice G n c, .slice O m d]] w _
  simp only at hgl hol hn hm hG hO
  obtain ⟨W1, hW1⟩ : ∃ W, W = w.alloc (.cells #[.int .i64 x, .int .i64 y, .slice G n c, .slice O m d] 25) := ⟨_, rfl⟩
  obtain ⟨W2, hW2⟩ : ∃ W, W = W1.alloc (.cells #[.int .i64 0, .int .i64 0, .slice none 0 0, .slice none 0 0] 29) := ⟨_, rfl⟩
  obtain ⟨W3, hW3⟩ : ∃ W, W = W2.alloc (.cells #[.int .i64 x, .int .i64 y, .slice none 0 0, .slice none 0 0] 29) := ⟨_, rfl⟩
  have s1 : W1.heap.size = w.heap.size + 1 := by rw [hW1]; simp
  have s2 : W2.heap.size = w.heap.size + 1 + 1 := by rw [hW2]; simp [s1]
  have s3 : W3.heap.size = w.heap.size + 1 + 1 + 1 := by rw [hW3]; simp [s2]
  have p0 : Blk W3 w.heap.size #[.int .i64 x, .int .i64 y, .slice G n c, .slice O m d] 25 := by rw [hW3, hW2, hW1]; exact ((Blk.new _ _ _).alloc _).alloc _
  have p1 : Blk W3 (w.heap.size + 1) #[.int .i64 0, .int .i64 0, .slice none 0 0, .slice none 0 0] 29 := by rw [hW3, hW2]; exact (Blk.newAt _ _ _ s1.symm).alloc _
  have p2 : Blk W3 (w.heap.size + 1 + 1) #[.int .i64 x, .int .i64 y, .slice none 0 0, .slice none 0 0] 29 := by rw [hW3]; exact Blk.newAt _ _ _ s2.symm
  have B3 : Below w.heap.size w W3 := by rw [hW3, hW2, hW1]; exact (((Below.refl _ w).alloc (Nat.le_refl _) _).alloc (by simp) _).alloc (by simp; omega) _
  have HG := hG.below B3
  have HO := hO.below B3
  go_enter Try.func17, Try.ntmps17
  go_wp2_with fail
  rw [← hW1, ← hW2, ← hW3]
  clear hW1 hW2 hW3
  refine (toGateS_any G n c gs W3 HG (by omega)).mono ?_
  rintro e w1 ⟨A', rfl, oG, b1⟩
  have q0 := p0.below' b1
  have q1 := p1.below' b1
  have q2 := p2.below' b1
  have hO1 := HO.below b1
  have t1 := b1.size
  have B4 := B3.trans (b1.mono B3.size)
  have c22 := q2.cell (i := 2) rfl
  have f22 := q2.free 2
  have c03 := q0.cell (i := 3) rfl
  clear p0 p1 p2 HG HO B3 b1
  go_wp2_with fail
  obtain ⟨W5, hW5⟩ : ∃ W, W = w1.setCell ⟨w.heap.size + 1 + 1, 2, none⟩ (.slice A' n n) := ⟨_, rfl⟩
  rw [← hW5]
  have r0 : Blk W5 w.heap.size #[.int .i64 x, .int .i64 y, .slice G n c, .slice O m d] 25 := by rw [hW5]; exact q0.other (by omega) _ _
  have r1 : Blk W5 (w.heap.size + 1) #[.int .i64 0, .int .i64 0, .slice none 0 0, .slice none 0 0] 29 := by rw [hW5]; exact q1.other (by omega) _ _
  have r2 : Blk W5 (w.heap.size + 1 + 1) #[.int .i64 x, .int .i64 y, .slice A' n n, .slice none 0 0] 29 := by rw [hW5]; exact q2.set 2 _
  have g5 : w1.grownBy W5 (some (w.heap.size + 1 + 1)) := by rw [hW5]; exact grown_setCell (World.grownBy.refl _ _) _ _
  have B5 : Below w.heap.size w W5 := by rw [hW5]; exact B4.setCell (by show w.heap.size ≤ w.heap.size + 1 + 1; omega) _
  have oG5 := oG.kept g5 (fun ad e => by have := (oG.born ad e).1; simp; omega)
  have hO5 : Has W5 O m os := hO.below B5
  have t5 := g5.size
  clear hW5 q0 q1 q2 c22 f22 c03 B4 oG hO1 g5
  refine (toIntS_any O m d os W5 hO5 (by omega)).mono ?_
  rintro e w2 ⟨A'', rfl, oO, b2⟩
  have u0 := r0.below' b2
  have u1 := r1.below' b2
  have u2 := r2.below' b2
  have oG6 := oG5.below b2
  have B6 := B5.trans (b2.mono B5.size)
  have t2 := b2.size
  have c20 := u2.cell (i := 0) rfl
  have c21 := u2.cell (i := 1) rfl
  have c22 := u2.cell (i := 2) rfl
  have c23 := u2.cell (i := 3) rfl
  have f23 := u2.free 3
  have c10 := u1.cell (i := 0) rfl
  have c11 := u1.cell (i := 1) rfl
  have c12 := u1.cell (i := 2) rfl
  have c13 := u1.cell (i := 3) rfl
  have f10 := u1.free 0
  have f11 := u1.free 1
  have f12 := u1.free 2
  have f13 := u1.free 3
  have HK := Lib.hid (And.intro u1 (And.intro B6 (And.intro oG6 oO)))
  clear r0 r1 r2 u0 u2 oG5 hO5 B5 b2 u1 B6 oG6 oO
  go_wp2_with fail
  obtain ⟨u1, B6, oG6, oO⟩ := HK.out
  obtain ⟨W7, hW7⟩ : ∃ W, W = w2.setCell ⟨w.heap.size + 1 + 1, 3, none⟩ (.slice A'' m m) := ⟨_, rfl⟩
  rw [← hW7]
  have g7 : w2.grownBy W7 (some (w.heap.size + 1 + 1)) := by rw [hW7]; exact grown_setCell (World.grownBy.refl _ _) _ _
  have v1 : Blk W7 (w.heap.size + 1) #[.int .i64 0, .int .i64 0, .slice none 0 0, .slice none 0 0] 29 := by rw [hW7]; exact u1.other (by omega) _ _
  have B7 : Below w.heap.size w W7 := by rw [hW7]; exact B6.setCell (by show w.heap.size ≤ w.heap.size + 1 + 1; omega) _
  have oG7 := oG6.kept g7 (fun ad e => by have := (oG6.born ad e).1; simp; omega)
  have oO7 := oO.kept g7 (fun ad e => by have := (oO.born ad e).1; simp; omega)
  have t7 := g7.size
  clear hW7 g7 u1 B6 oG6 oO
  obtain ⟨W8, hW8⟩ : ∃ W, W = (((W7.setCell ⟨w.heap.size + 1, 0, none⟩ (.int .i64 x)).setCell ⟨w.heap.size + 1, 1, none⟩ (.int .i64 y)).setCell ⟨w.heap.size + 1, 2, none⟩ (.slice A' n n)).setCell ⟨w.heap.size + 1, 3, none⟩ (.slice A'' m m) := ⟨_, rfl⟩
  rw [← hW8]
  have g8 : W7.grownBy W8 (some (w.heap.size + 1)) := by rw [hW8]; exact grown_setCell (grown_setCell (grown_setCell (grown_setCell (World.grownBy.refl _ _) _ _) _ _) _ _) _ _
  have v8 : Blk W8 (w.heap.size + 1) #[.int .i64 x, .int .i64 y, .slice A' n n, .slice A'' m m] 29 := by rw [hW8]; exact (((v1.set 0 _).set 1 _).set 2 _).set 3 _
  have B8 : Below w.heap.size w W8 := B7.grown g8 (by omega) (fun k hk => by simp at hk; omega)
  have oG8 := oG7.kept g8 (fun ad e => by have := (oG7.born ad e).1; simp; omega)
  have oO8 := oO7.kept g8 (fun ad e => by have := (oO7.born ad e).1; simp; omega)
  have e0 := v8.cell (i := 0) rfl
  have e1 := v8.cell (i := 1) rfl
  have e2 := v8.cell (i := 2) rfl
  have e3 := v8.cell (i := 3) rfl
  refine bodyPost_ret (v := .agg #[.int .i64 x, .int .i64 y, .slice A' n n, .slice A'' m m]) (by simp [results, Try.results17, go_sem, e0, e1, e2, e3]) rfl ⟨_, rfl, ⟨A', n, n, A'', m, m, rfl, oG8.mono (by omega), oO8.mono (by omega)⟩, B8⟩

end Go.Proofs.Yteiibneaihdmbaa

/- The comparison of two circuits that read alike, and the marks in a circuit, in the exact laws. For lists of at most 1048576 elements. -/
namespace Go.Proofs.Yteiibneaihdmbaa
open Go.RowKit
set_option maxRecDepth 100000


set_option maxHeartbeats 1000000 in
theorem eqCircuit_same (v v' : Value) (C : Ci) (w : World) (h : HasC w v C) (h' : HasC w v' C) (hn : C.gs.length ≤ 1048576) (hm : C.os.length ≤ 1048576) :
    Calls Try.prog 19 #[v, v'] w fun e w' => e = .returned (.bool true) ∧ Below w.heap.size w w' := by
  obtain ⟨G, n, c, O, m, d, rfl, hG, hO, _, _, _, _⟩ := h
  obtain ⟨G', n', c', O', m', d', rfl, hG', hO', _, _, _, _⟩ := h'
  have hgl := hG.1
  have hol := hO.1
  obtain ⟨x, y, gs, os⟩ := C
  show Calls Try.prog 19 #[.agg #[.int .i64 x, .int .i64 y, .slice G n c, .slice O m d], .agg #[.int .i64 x, .int .i64 y, .slice G' n' c', .slice O' m' d']] w _
  simp only at hgl hol hn hm hG hO hG' hO'
  obtain ⟨W1, hW1⟩ : ∃ W, W = w.alloc (.cells #[.int .i64 x, .int .i64 y, .slice G n c, .slice O m d] 29) := ⟨_, rfl⟩
  obtain ⟨W2, hW2⟩ : ∃ W, W = W1.alloc (.cells #[.int .i64 x, .int .i64 y, .slice G' n' c', .slice O' m' d'] 29) := ⟨_, rfl⟩
  have s1 : W1.heap.size = w.heap.size + 1 := by rw [hW1]; simp
  have p0 : Blk W2 w.heap.size #[.int .i64 x, .int .i64 y, .slice G n c, .slice O m d] 29 := by rw [hW2, hW1]; exact (Blk.new _ _ _).alloc _
  have p1 : Blk W2 (w.heap.size + 1) #[.int .i64 x, .int .i64 y, .slice G' n' c', .slice O' m' d'] 29 := by rw [hW2]; exact Blk.newAt _ _ _ s1.symm
  have B2 : Below w.heap.size w W2 := by rw [hW2, hW1]; exact ((Below.refl _ w).alloc (Nat.le_refl _) _).alloc (by simp) _
  have HG := hG.below B2
  have HO := hO.below B2
  have HG' := hG'.below B2
  have HO' := hO'.below B2
  go_enter Try.func19, Try.ntmps19
  go_wp2_with fail
  rw [← hW1, ← hW2]
  clear hW1 hW2
  refine (eqGateS_same G G' n n' c c' gs W2 HG HG' (by omega)).mono ?_
  rintro e w1 ⟨rfl, b1⟩
  have q0 := (p0.below' b1).cell (i := 3) rfl
  have q1 := (p1.below' b1).cell (i := 3) rfl
  have B3 := B2.trans (b1.mono B2.size)
  have HO3 := HO.below b1
  have HO3' := HO'.below b1
  clear p0 p1 b1 B2 HO HO' HG HG' hG hG' hO hO'
  go_wp2_with fail
  refine (eqIntS_same O O' m m' d d' os w1 HO3 HO3' (by omega)).mono ?_
  rintro e w2 ⟨rfl, b2⟩
  have B4 := B3.trans (b2.mono B3.size)
  go_wp2_with fail
  go_ret
  exact ⟨rfl, B4⟩

/-- The marks from m on in the cells of a circuit's lists. -/
def markC (C : Ci) (m : Int) : Ci := ⟨C.in0, C.in1, gmarks m C.gs.length, marks (m + 3 * (C.gs.length : Int)) C.os.length⟩
/-- How many cells a circuit's lists have. -/
def sizeC (C : Ci) : Int := 3 * (C.gs.length : Int) + (C.os.length : Int)

set_option maxHeartbeats 1000000 in
theorem markCircuit_any (v : Value) (C C0 : Ci) (B : Nat) (k : Int) (w wx : World) (h : OwnC w B v C) (h0 : OwnC wx B v C0) (hx : wx.heap.size ≤ w.heap.size) (hn : C.gs.length ≤ 1048576) (hm : C.os.length ≤ 1048576) (hk0 : 0 ≤ k) (hk1 : k ≤ 8388608) :
    Calls Try.prog 20 #[v, .int .i64 k] w fun e w' => e = .returned (.int .i64 (k + sizeC C)) ∧ OwnC w' B v (markC C k) ∧ Span B wx.heap.size w w' := by
  obtain ⟨G, n, c, O, m, d, rfl, hG, hO⟩ := h
  obtain ⟨G0, n0, c0, O0, m0, d0, e0, hG0, hO0⟩ := h0
  have eG : G = G0 := by injection e0 with e; injection e with e; simp at e; exact e.2.2.1.1
  have eO : O = O0 := by injection e0 with e; injection e with e; simp at e; exact e.2.2.2.1
  subst eG
  subst eO
  have hgl := hG.1
  have hol := hO.1
  have gb : ∀ ad, G = some ad → B ≤ ad.block ∧ ad.block < wx.heap.size := hG0.born
  have ob : ∀ ad, O = some ad → B ≤ ad.block ∧ ad.block < wx.heap.size := hO0.born
  have apart := ownApart hG hO
  obtain ⟨x, y, gs, os⟩ := C
  show Calls Try.prog 20 #[.agg #[.int .i64 x, .int .i64 y, .slice G n c, .slice O m d], .int .i64 k] w _
  simp only at hgl hol hn hm hG hO
  have es : sizeC ⟨x, y, gs, os⟩ = 3 * (n : Int) + (m : Int) := by simp [sizeC, hgl, hol]
  have em : markC ⟨x, y, gs, os⟩ k = ⟨x, y, gmarks k n, marks (k + 3 * (n : Int)) m⟩ := by simp [markC, hgl, hol]
  rw [es, em]
  clear es em hG0 hO0 e0
  have B1 := belowNew w (.cells #[.int .i64 x, .int .i64 y, .slice G n c, .slice O m d] 29)
  have p0 := Blk.new w #[.int .i64 x, .int .i64 y, .slice G n c, .slice O m d] 29
  have S0 : Span B wx.heap.size w (w.alloc (.cells #[.int .i64 x, .int .i64 y, .slice G n c, .slice O m d] 29)) := ⟨B1.os, B1.tape, B1.output, B1.size, fun i hi _ => B1.block i hi⟩
  have hG1 := hG.below B1
  have hO1 := hO.below B1
  have HA := Lib.hid apart
  have GB := Lib.hid gb
  have OB := Lib.hid ob
  clear apart gb ob
  go_enter Try.func20, Try.ntmps20
  go_wp2_with fail
  generalize w.alloc (.cells #[.int .i64 x, .int .i64 y, .slice G n c, .slice O m d] 29) = W1 at *
  refine (markGateS_any G B n c k gs W1 hG1 (by omega) hk0 (by omega)).mono ?_
  rintro e w1 ⟨rfl, oG, g1⟩
  have q0 := p0.grown g1 (fun e => by
    cases hG' : G with
    | none => rw [hG'] at e; simp [blockOf] at e
    | some a => rw [hG'] at e; simp [blockOf] at e; have := (GB.out a hG').2; omega)
  have hO2 := hO1.kept g1 (fun ad e1 e2 => by
    cases hG' : G with
    | none => rw [hG'] at e2; simp [blockOf] at e2
    | some a => rw [hG'] at e2; simp [blockOf] at e2; exact HA.out a ad hG' e1 e2.symm)
  have S1 := S0.grown g1 (fun b e => by
    cases hG' : G with
    | none => rw [hG'] at e; simp [blockOf] at e
    | some a => rw [hG'] at e; simp [blockOf] at e; have := GB.out a hG'; omega)
  have c3 := q0.cell (i := 3) rfl
  clear p0 hG hG1 hO1 hO S0 B1 q0
  go_wp2_with fail
  refine (markIntS_any O B m d (k + 3 * (n : Int)) os w1 hO2 (by omega) (by omega) (by omega)).mono ?_
  rintro e w2 ⟨rfl, oO, g2⟩
  have oG2 := oG.kept g2 (fun ad e1 e2 => by
    cases hO' : O with
    | none => rw [hO'] at e2; simp [blockOf] at e2
    | some a => rw [hO'] at e2; simp [blockOf] at e2; exact HA.out ad a e1 hO' e2)
  have S2 := S1.grown g2 (fun b e => by
    cases hO' : O with
    | none => rw [hO'] at e; simp [blockOf] at e
    | some a => rw [hO'] at e; simp [blockOf] at e; have := OB.out a hO'; omega)
  go_wp2_with fail
  go_ret
  exact ⟨retI (by omega), ⟨G, n, c, O, m, d, rfl, oG2, oO⟩, S2⟩

set_option maxHeartbeats 1000000 in
theorem heldCircuit_any (v : Value) (C : Ci) (k : Int) (w : World) (h : HasC w v (markC C k)) (hn : C.gs.length ≤ 1048576) (hm : C.os.length ≤ 1048576) (hk0 : 0 ≤ k) (hk1 : k ≤ 8388608) :
    Calls Try.prog 21 #[v, .int .i64 k] w fun e w' => e = .returned (.int .i64 (k + sizeC C)) ∧ Below w.heap.size w w' := by
  obtain ⟨G, n, c, O, m, d, rfl, hG, hO, _, _, _, _⟩ := h
  obtain ⟨x, y, gs, os⟩ := C
  have hgl : gs.length = n := by have := hG.1; simpa [markC, gmarks_length] using this
  have hol : os.length = m := by have := hO.1; simpa [markC, marks_length] using this
  show Calls Try.prog 21 #[.agg #[.int .i64 x, .int .i64 y, .slice G n c, .slice O m d], .int .i64 k] w _
  have es : sizeC ⟨x, y, gs, os⟩ = 3 * (n : Int) + (m : Int) := by simp [sizeC, hgl, hol]
  rw [es]
  simp only [markC, hgl, hol] at hG hO hn hm
  have B1 := belowNew w (.cells #[.int .i64 x, .int .i64 y, .slice G n c, .slice O m d] 29)
  have c3 := (Blk.new w #[.int .i64 x, .int .i64 y, .slice G n c, .slice O m d] 29).cell (i := 3) rfl
  have hG1 := hG.below B1
  have hO1 := hO.below B1
  clear es
  go_enter Try.func21, Try.ntmps21
  go_wp2_with fail
  generalize w.alloc (.cells #[.int .i64 x, .int .i64 y, .slice G n c, .slice O m d] 29) = W1 at *
  refine (heldGateS_any G n c k W1 hG1 (by omega) hk0 (by omega)).mono ?_
  rintro e w1 ⟨rfl, rfl⟩
  go_wp2_with fail
  refine (heldIntS_any O m d (k + 3 * (n : Int)) W1 hO1 (by omega) (by omega) (by omega)).mono ?_
  rintro e w2 ⟨rfl, b2⟩
  go_wp2_with fail
  go_ret
  exact ⟨retI (by omega), B1.trans (b2.mono B1.size)⟩

end Go.Proofs.Yteiibneaihdmbaa

/- A circuit that came in as an argument of an exact law: what it reads as. No condition. -/
namespace Go.Proofs.Yteiibneaihdmbaa
open Go.ChangeShapes Go.WideShapes Go.ChangeAt Go.RowKit Go.Deep
set_option maxRecDepth 100000


theorem cellsGateL : Try.prog.cellsOf 130 = 3 := by kernel_rfl
theorem cellsCircuitL : Try.prog.cellsOf 25 = 4 := by kernel_rfl
theorem cellsGatesL : Try.prog.cellsOf 22 = 1 := by kernel_rfl
theorem cellsIntsL : Try.prog.cellsOf 23 = 1 := by kernel_rfl

/-- A gate all of whose numbers fit 64 bits. -/
def G64 (g : Ga) : Prop := I64 g.1 ∧ I64 g.2.1 ∧ I64 g.2.2

theorem atSome {α : Type} {l : List α} {i n : Nat} (hl : l.length = n) (hi : i < n) : ∃ y, l[i]? = some y := ⟨l[i]'(by omega), List.getElem?_eq_getElem _⟩

theorem openGate {H : Type} {enc : TypeId × Value → H} {W : World} {fuel : Nat} {cs : List Value} {x : DataW H × List MemPlace} (h : DataW.trod enc Try.prog W 0 (fun _ => true) true fuel 130 cs = some x) :
    ∃ g : Ga, cs = [.int .i64 g.1, .int .i64 g.2.1, .int .i64 g.2.2] ∧ G64 g := by
  obtain ⟨xs, n, _, _, hl, hxl, hf⟩ := DataW.trod_struct Try.underlying130 h
  rw [cellsGateL] at hl
  have hxl' : xs.length = 3 := hxl
  obtain ⟨y0, e0⟩ := atSome hxl' (i := 0) (by omega)
  obtain ⟨y1, e1⟩ := atSome hxl' (i := 1) (by omega)
  obtain ⟨y2, e2⟩ := atSome hxl' (i := 2) (by omega)
  have f0 : DataW.trod enc Try.prog W 0 (fun _ => true) true n 3 ((cs.drop 0).take (Try.prog.cellsOf 3)) = some y0 := (hf 0 _ rfl).trans e0
  have f1 : DataW.trod enc Try.prog W 0 (fun _ => true) true n 3 ((cs.drop 1).take (Try.prog.cellsOf 3)) = some y1 := (hf 1 _ rfl).trans e1
  have f2 : DataW.trod enc Try.prog W 0 (fun _ => true) true n 3 ((cs.drop 2).take (Try.prog.cellsOf 3)) = some y2 := (hf 2 _ rfl).trans e2
  rw [cellsInt] at f0 f1 f2
  obtain ⟨z0, h0, _, w0⟩ := DataW.trod_int Try.underlying3 f0
  obtain ⟨z1, h1, _, w1⟩ := DataW.trod_int Try.underlying3 f1
  obtain ⟨z2, h2, _, w2⟩ := DataW.trod_int Try.underlying3 f2
  match cs, hl with
  | [a, b, c], _ =>
    simp at h0 h1 h2
    subst h0 h1 h2
    exact ⟨(z0, z1, z2), rfl, I64.of w0, I64.of w1, I64.of w2⟩

theorem openGates {H : Type} {enc : TypeId × Value → H} {W : World} {fuel : Nat} {cs : List Value} {x : DataW H × List MemPlace} (h : DataW.trod enc Try.prog W 0 (fun _ => true) true fuel 22 cs = some x) :
    ∃ (A : Option Addr) (n c : Nat) (gs : List Ga), cs = [.slice A n c] ∧ HasG W A n gs ∧ n ≤ maxLen ∧ n ≤ c ∧ NilOk A n c ∧ ∀ g ∈ gs, G64 g := by
  rcases open_slice Try.underlying22 h with ⟨rfl, _⟩ | ⟨a, len, cap, m, n, D, Pl, rfl, _, hlc, hcm, hm, _, hel⟩
  · exact ⟨none, 0, 0, [], rfl, ⟨rfl, fun h => absurd h (by omega)⟩, Nat.zero_le _, Nat.le_refl _, fun _ => ⟨rfl, rfl⟩, by simp⟩
  · simp only [if_true] at hm
    subst hm
    have hg : ∀ i, i < len → ∃ g : Ga, (W.cell? (a.add (i * 3)) = some (.int .i64 g.1) ∧ W.cell? ((a.add (i * 3)).add 1) = some (.int .i64 g.2.1) ∧ W.cell? ((a.add (i * 3)).add 2) = some (.int .i64 g.2.2)) ∧ G64 g := by
      intro i hi
      obtain ⟨cs', hc, ht⟩ := hel i (by omega)
      rw [cellsGateL] at hc
      obtain ⟨g, rfl, hw⟩ := openGate ht
      obtain ⟨_, _, hcell⟩ := World.cells?_some hc
      refine ⟨g, ⟨?_, hcell 1 (by omega), hcell 2 (by omega)⟩, hw⟩
      have := hcell 0 (by omega)
      simpa [Addr.add] using this
    refine ⟨some a, len, m, (List.range len).map fun i => if hi : i < len then Classical.choose (hg i hi) else g0, rfl, ⟨by simp, fun hn => ⟨a, rfl, ?_, fun k hk => ?_⟩⟩, by omega, hlc, (fun e => by cases e), ?_⟩
    · obtain ⟨g, ⟨h0, _, _⟩, _⟩ := hg 0 hn
      have h1 := World.block_lt_of_cell? W _ h0
      rwa [addBlock] at h1
    · have e : ((List.range len).map fun i => if hi : i < len then Classical.choose (hg i hi) else g0).getD k g0 = Classical.choose (hg k hk) := by simp [List.getD, hk]
      rw [e]
      exact (Classical.choose_spec (hg k hk)).1
    · intro g hgm
      obtain ⟨i, hi, rfl⟩ := List.mem_map.1 hgm
      have hi' : i < len := by simpa using hi
      rw [dif_pos hi']
      exact (Classical.choose_spec (hg i hi')).2

theorem openIntsAt {H : Type} {enc : TypeId × Value → H} {W : World} {fuel : Nat} {cs : List Value} {x : DataW H × List MemPlace} (h : DataW.trod enc Try.prog W 0 (fun _ => true) true fuel 23 cs = some x) :
    ∃ (A : Option Addr) (n c : Nat) (zs : List Int), cs = [.slice A n c] ∧ Has W A n zs ∧ n ≤ maxLen ∧ n ≤ c ∧ NilOk A n c ∧ ∀ z ∈ zs, I64 z := by
  rcases open_ints Try.underlying23 Try.underlying3 cellsInt h with ⟨rfl, _⟩ | ⟨a, len, cap, zs, rfl, _, hl, hm, hlen, ex, hc, hwf⟩
  · exact ⟨none, 0, 0, [], rfl, Has.nil_, Nat.zero_le _, Nat.le_refl _, fun _ => ⟨rfl, rfl⟩, by simp⟩
  · simp only [if_true] at hlen
    refine ⟨some a, len, cap, zs.take len, rfl, ⟨by rw [List.length_take]; omega, fun hn => ⟨a, rfl, ?_, fun k hk => ?_⟩⟩, by omega, hl, (fun e => by cases e), fun z hz => I64.of (hwf z (List.mem_of_mem_take hz))⟩
    · have h0 := World.block_lt_of_cell? W _ (hc 0 (by omega))
      rwa [addBlock] at h0
    · rw [hc k (by omega)]
      simp [List.getD, hk]

/-- A circuit whose numbers fit 64 bits. -/
def C64 (C : Ci) : Prop := I64 C.in0 ∧ I64 C.in1 ∧ (∀ g ∈ C.gs, G64 g) ∧ ∀ z ∈ C.os, I64 z

theorem openC {H : Type} {enc : TypeId × Value → H} {W : World} {base : Nat} {v : Value} {d : DataW H} {ps : List MemPlace} (hv : Value.okWide Try.prog W .any base 25 v)
    (h : DataW.Trod enc Try.prog W 0 (fun _ => true) true 25 v d ps) : ∃ C : Ci, HasC W v C ∧ C.gs.length ≤ maxLen ∧ C.os.length ≤ maxLen ∧ C64 C := by
  obtain ⟨fuel, hf⟩ := h
  obtain ⟨cs, rfl, hs⟩ := okWide_struct Try.underlying25 hv
  rw [cellsCircuitL] at hs
  have hcs : (Value.agg cs).cells.toList = cs.toList := rfl
  rw [hcs] at hf
  obtain ⟨xs, n, _, _, _, hxl, hfs⟩ := DataW.trod_struct Try.underlying25 hf
  have hxl' : xs.length = 4 := hxl
  obtain ⟨y0, e0⟩ := atSome hxl' (i := 0) (by omega)
  obtain ⟨y1, e1⟩ := atSome hxl' (i := 1) (by omega)
  obtain ⟨y2, e2⟩ := atSome hxl' (i := 2) (by omega)
  obtain ⟨y3, e3⟩ := atSome hxl' (i := 3) (by omega)
  have f0 : DataW.trod enc Try.prog W 0 (fun _ => true) true n 3 ((cs.toList.drop 0).take (Try.prog.cellsOf 3)) = some y0 := (hfs 0 _ rfl).trans e0
  have f1 : DataW.trod enc Try.prog W 0 (fun _ => true) true n 3 ((cs.toList.drop 1).take (Try.prog.cellsOf 3)) = some y1 := (hfs 1 _ rfl).trans e1
  have f2 : DataW.trod enc Try.prog W 0 (fun _ => true) true n 22 ((cs.toList.drop 2).take (Try.prog.cellsOf 22)) = some y2 := (hfs 2 _ rfl).trans e2
  have f3 : DataW.trod enc Try.prog W 0 (fun _ => true) true n 23 ((cs.toList.drop 3).take (Try.prog.cellsOf 23)) = some y3 := (hfs 3 _ rfl).trans e3
  rw [cellsInt] at f0 f1
  rw [cellsGatesL] at f2
  rw [cellsIntsL] at f3
  obtain ⟨z0, h0, _, w0⟩ := DataW.trod_int Try.underlying3 f0
  obtain ⟨z1, h1, _, w1⟩ := DataW.trod_int Try.underlying3 f1
  obtain ⟨G, n, c, gs, h2, hG, hn, hnc, hN, w2⟩ := openGates f2
  obtain ⟨O, m, d, os, h3, hO, hm, hmd, hN', w3⟩ := openIntsAt f3
  obtain ⟨l⟩ := cs
  have hs' : l.length = 4 := hs
  match l, hs' with
  | [a, b, c', d'], _ =>
    simp at h0 h1 h2 h3
    subst h0 h1 h2 h3
    exact ⟨⟨z0, z1, gs, os⟩, ⟨G, n, c, O, m, d, rfl, hG, hO, hnc, hmd, hN, hN'⟩, by rw [hG.1]; exact hn, by rw [hO.1]; exact hm, I64.of w0, I64.of w1, w2, w3⟩

/-- A circuit that the helpers of the exact laws take. -/
def Fit (C : Ci) : Prop := C.gs.length ≤ 1048576 ∧ C.os.length ≤ 1048576 ∧ C64 C

theorem leftFit {C : Ci} {x l : Int} (h : leftOf C x = l) (h0 : ¬ l < 0) (hx : x ≤ 1048576) : C.gs.length ≤ 1048576 ∧ C.os.length ≤ 1048576 ∧ l ≤ x := by
  unfold leftOf at h
  split at h
  · omega
  · split at h
    · omega
    · omega

section
variable {w w' wb wx : World} {v : Value} {C C0 : Ci} {B S T n c g : Nat} {A X : Option Addr} {gs : List Ga} {zs : List Int} {cs : Array Value} {t : TypeId}
/-- A list of the call's own whose marks are written: nothing else has turned. -/
theorem spanOf (hg : w.grownBy w' (blockOf X)) (hX : Own wx B X n c zs) : Span B wx.heap.size w w' :=
  (Span.refl B wx.heap.size w).grown hg (fun k hk => by
    cases X with
    | none => simp [blockOf] at hk
    | some x =>
      have h2 := hX.born x rfl
      simp [blockOf] at hk
      omega)
theorem HasG.span (h : HasG w A n gs) (hs : Span S T w w') (hb : HasG wb A n gs) (hS : wb.heap.size ≤ S) : HasG w' A n gs := by
  refine ⟨h.1, fun hn => ?_⟩
  obtain ⟨ad0, e0, hlt0, _⟩ := hb.2 hn
  have hk : HasG w' A n gs := h.keep hs.size (fun ad e hlt => hs.block _ hlt (.inl (by rw [e0] at e; injection e with e; rw [← e]; omega)))
  exact hk.2 hn
theorem HasC.span (h : HasC w v C) (hs : Span S T w w') (hb : HasC wb v C) (hS : wb.heap.size ≤ S) : HasC w' v C := by
  obtain ⟨G, n, c, O, m, d, rfl, h1, h2, h3⟩ := h
  obtain ⟨G', n', c', O', m', d', e, k1, k2, _⟩ := hb
  injection e with e
  simp at e
  obtain ⟨⟨rfl, rfl, rfl⟩, rfl, rfl, rfl⟩ := e
  exact ⟨G, n, c, O, m, d, rfl, h1.span hs k1 hS, h2.span hs (fun hn ad e => by have := k2.old hn ad e; omega), h3⟩
end

theorem OwnC.kept {w w' : World} {B g : Nat} {v : Value} {C : Ci} (h : OwnC w B v C) (hg : w.grownBy w' (some g)) (hlt : g < B) : OwnC w' B v C := by
  obtain ⟨G, n, c, O, m, d, e, h1, h2⟩ := h
  exact ⟨G, n, c, O, m, d, e, h1.kept hg (fun ad e => by have := (h1.born ad e).1; simp; omega), h2.kept hg (fun ad e => by have := (h2.born ad e).1; simp; omega)⟩

/-- A variable of four cells is written whole. -/
theorem fourSet {w wn : World} {B S g : Nat} {v a b c d z0 z1 z2 z3 : Value} {C : Ci} {t : TypeId} (on : OwnC wn B v C) (zn : Blk wn g #[z0, z1, z2, z3] t) (hlt : g < B) (bn : Below S w wn) (hg : S ≤ g) :
    Blk ((((wn.setCell ⟨g, 0, none⟩ a).setCell ⟨g, 1, none⟩ b).setCell ⟨g, 2, none⟩ c).setCell ⟨g, 3, none⟩ d) g #[a, b, c, d] t ∧
    OwnC ((((wn.setCell ⟨g, 0, none⟩ a).setCell ⟨g, 1, none⟩ b).setCell ⟨g, 2, none⟩ c).setCell ⟨g, 3, none⟩ d) B v C ∧
    Below S w ((((wn.setCell ⟨g, 0, none⟩ a).setCell ⟨g, 1, none⟩ b).setCell ⟨g, 2, none⟩ c).setCell ⟨g, 3, none⟩ d) :=
  ⟨(((zn.set 0 a).set 1 b).set 2 c).set 3 d, on.kept (grown_setCell (grown_setCell (grown_setCell (grown_setCell (World.grownBy.refl _ _) _ _) _ _) _ _) _ _) hlt,
    (((bn.setCell hg _).setCell hg _).setCell hg _).setCell hg _⟩

end Go.Proofs.Yteiibneaihdmbaa
