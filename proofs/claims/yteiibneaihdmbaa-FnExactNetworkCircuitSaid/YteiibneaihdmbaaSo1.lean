/- A list of steps of a network in memory, and what the helpers of the exact laws do with it: copy it, compare two, write marks, look whether the marks are still there; a list of steps that came in as an argument. For lists of at most 1048576 steps. -/
import Derived.Test.YteiibneaihdmbaaHelp
import Derived.Test.YteiibneaihdmbaaGen2
import Derived.StillTailTactics
import Derived.Test.YteiibneaihdmbaaGen1
import Derived.Lib.SmallJoins
import Derived.Test.YteiibneaihdmbaaClose
import Derived.Deep.Slices
namespace Go.Proofs.Yteiibneaihdmbaa
open Go.ChangeShapes Go.WideShapes Go.ChangeAt Go.RowKit Go.Deep
set_option maxRecDepth 100000

/-- A step: its two lines. -/
abbrev St : Type := Int × Int
def st0 : St := (0, 0)
/-- The cells that hold a list of steps. -/
def tvals (l : List St) : List Value := l.flatMap fun s => [Value.int .i64 s.1, Value.int .i64 s.2]
theorem tvals_length (l : List St) : (tvals l).length = l.length * 2 := by
  induction l with
  | nil => rfl
  | cons g t ih => simp only [tvals, List.flatMap_cons, List.length_append, List.length_cons, List.length_nil] at ih ⊢; omega
theorem tvals_one (l : List St) : ∀ u ∈ tvals l, u.oneCell' = true := by
  intro u hu
  obtain ⟨g, _, h⟩ := List.mem_flatMap.1 hu
  simp at h
  rcases h with rfl | rfl <;> rfl
theorem tvals_append (l m : List St) : tvals (l ++ m) = tvals l ++ tvals m := by simp [tvals]
theorem tvals_cell (l : List St) : ∀ (k : Nat), k < l.length → (tvals l)[k * 2]? = some (.int .i64 (l.getD k st0).1) ∧ (tvals l)[k * 2 + 1]? = some (.int .i64 (l.getD k st0).2) := by
  induction l with
  | nil => intro k hk; simp at hk
  | cons g t ih =>
    intro k hk
    match k with
    | 0 => exact ⟨rfl, rfl⟩
    | k + 1 =>
      have h := ih k (by simp at hk; omega)
      have e1 : (k + 1) * 2 = k * 2 + 2 := by omega
      rw [e1]
      exact h

/-- The slice of n steps at address A reads as l. -/
def HasT (w : World) (A : Option Addr) (n : Nat) (l : List St) : Prop :=
  l.length = n ∧ (0 < n → ∃ ad : Addr, A = some ad ∧ ad.block < w.heap.size ∧ ∀ k, k < n → w.cell? (ad.add (k * 2)) = some (.int .i64 (l.getD k st0).1) ∧ w.cell? ((ad.add (k * 2)).add 1) = some (.int .i64 (l.getD k st0).2))
/-- A row of the call's own, from block B on, that holds l. -/
def OwnT (w : World) (B : Nat) (A : Option Addr) (n c : Nat) (l : List St) : Prop :=
  l.length = n ∧ w.ownsRow B 93 2 (.slice A n c) n (tvals l)

section
variable {w w' wb wx : World} {A : Option Addr} {B B' S T n c : Nat} {l : List St}
/-- A letter for each part of a step; the cells in the form in which the walk asks for them. -/
theorem HasT.elem {k : Nat} (h : HasT w A n l) (hk : k < n) : ∃ (ad : Addr) (x y : Int), A = some ad ∧ w.cell? (ad.add (k * 2)) = some (.int .i64 x) ∧ w.cell? ⟨(ad.add (k * 2)).block, (ad.add (k * 2)).off + 1, none⟩ = some (.int .i64 y) ∧ Hid (l.getD k st0 = (x, y)) := by
  obtain ⟨ad, e, _, hc⟩ := h.2 (by omega)
  exact ⟨ad, _, _, e, (hc k hk).1, (hc k hk).2, rfl⟩
theorem HasT.keep (h : HasT w A n l) (hs : w.heap.size ≤ w'.heap.size) (hk : ∀ ad : Addr, A = some ad → ad.block < w.heap.size → w'.heap[ad.block]? = w.heap[ad.block]?) : HasT w' A n l :=
  ⟨h.1, fun hn => by
    obtain ⟨ad, rfl, hb, hc⟩ := h.2 hn
    refine ⟨ad, rfl, by omega, fun k hkn => ?_⟩
    have hq : ∀ j, w'.heap[(ad.add j).block]? = w.heap[(ad.add j).block]? := fun j => by rw [addBlock]; exact hk ad rfl hb
    have hq2 : ∀ j i, w'.heap[((ad.add j).add i).block]? = w.heap[((ad.add j).add i).block]? := fun j i => by rw [addBlock, addBlock]; exact hk ad rfl hb
    obtain ⟨h1, h2⟩ := hc k hkn
    exact ⟨(World.cell?_of_block (hq _)).trans h1, (World.cell?_of_block (hq2 _ _)).trans h2⟩⟩
theorem HasT.below (h : HasT w A n l) (hb : Below w.heap.size w w') : HasT w' A n l := h.keep hb.size fun _ _ hlt => hb.block _ hlt
theorem HasT.old (h : HasT w A n l) : Old w.heap.size A n := by
  intro hn ad e
  obtain ⟨ad', e', hb, _⟩ := h.2 hn
  rw [e] at e'
  injection e' with e'
  rw [e']
  exact hb
theorem HasT.grown (h : HasT w A n l) {row : Option Nat} (hg : w.grownBy w' row) (hne : ∀ ad : Addr, A = some ad → some ad.block ≠ row) : HasT w' A n l :=
  h.keep hg.size fun ad e hlt => hg.block _ hlt (hne ad e)
theorem HasT.span (h : HasT w A n l) (hs : Span S T w w') (ho : Old S A n) : HasT w' A n l := by
  refine ⟨h.1, fun hn => ?_⟩
  have hk : HasT w' A n l := h.keep hs.size (fun ad e hlt => hs.block _ hlt (.inl (ho hn ad e)))
  exact hk.2 hn
theorem HasT.nil_ : HasT w none 0 [] := ⟨rfl, fun h => absurd h (by omega)⟩
theorem OwnT.has (h : OwnT w B A n c l) : HasT w A n l := by
  refine ⟨h.1, fun hn => ?_⟩
  obtain ⟨g, cap, hv, _, hlt⟩ := h.2.form hn
  have hA : A = some ⟨g, 0, none⟩ := by injection hv
  subst hA
  refine ⟨_, rfl, hlt, fun k hk => ?_⟩
  obtain ⟨h1, h2⟩ := tvals_cell l k (by rw [h.1]; exact hk)
  have e0 := h.2.cellAt (k * 2) (by omega)
  have e1 := h.2.cellAt (k * 2 + 1) (by omega)
  rw [addNone', addOff']
  exact ⟨e0.trans h1, e1.trans h2⟩
theorem OwnT.born (h : OwnT w B A n c l) (ad : Addr) (e : A = some ad) : B ≤ ad.block ∧ ad.block < w.heap.size := by
  subst e
  exact h.2.lt ad.block rfl
theorem OwnT.kept (h : OwnT w B A n c l) {row : Option Nat} (hg : w.grownBy w' row) (hne : ∀ ad : Addr, A = some ad → some ad.block ≠ row) : OwnT w' B A n c l := by
  refine ⟨h.1, h.2.kept hg ?_⟩
  cases A with
  | none => exact .inl rfl
  | some ad => exact .inr (hne ad rfl)
theorem OwnT.below (h : OwnT w B A n c l) (hb : Below w.heap.size w w') : OwnT w' B A n c l := h.kept (grownOf hb none) (by simp)
theorem OwnT.mono (h : OwnT w B A n c l) (hB : B' ≤ B) : OwnT w B' A n c l := ⟨h.1, h.2.mono hB⟩
theorem OwnT.nil_ (w : World) (B : Nat) : OwnT w B none 0 0 [] := ⟨rfl, World.ownsRow_nil _ _ _ _⟩
theorem OwnT.capLe (h : OwnT w B A n c l) : n ≤ c := by
  rcases h.2.2 with ⟨hv, h0⟩ | ⟨g, cap, cur, hv, _, _, hnc, _⟩
  · omega
  · injection hv with _ _ hc
    omega
theorem OwnT.nilOk (h : OwnT w B A n c l) : NilOk A n c := by
  intro e
  subst e
  rcases h.2.2 with ⟨hv, h0⟩ | ⟨g, cap, cur, hv, _⟩
  · injection hv with _ _ hc
    exact ⟨h0, hc⟩
  · injection hv with ha
    cases ha
theorem OwnT.span (h : OwnT w B A n c l) (hs : Span S T w w') (hT : T ≤ B) : OwnT w' B A n c l := by
  refine ⟨h.1, ?_⟩
  rcases h.2 with ⟨h1, h2⟩
  refine ⟨h1, ?_⟩
  rcases h2 with h2 | ⟨g, cap, cur, e, hb, hg, h5, h6, h7, h8⟩
  · exact .inl h2
  · refine .inr ⟨g, cap, cur, e, hb, ?_, h5, h6, h7, h8⟩
    rw [hs.block g (by have := (Array.getElem?_eq_some_iff.1 hg).1; exact this) (.inr (by omega))]
    exact hg
/-- A list of steps of the call's own whose marks are written: nothing else has turned. -/
theorem spanOfT {X : Option Addr} (hg : w.grownBy w' (blockOf X)) (hX : OwnT wx B X n c l) : Span B wx.heap.size w w' :=
  (Span.refl B wx.heap.size w).grown hg (fun k hk => by
    cases X with
    | none => simp [blockOf] at hk
    | some x =>
      have h2 := hX.born x rfl
      simp [blockOf] at hk
      omega)
end

theorem tput {w : World} {B e g n c k : Nat} {xs : List Value} {l : List St} {x y : Int} (ho : w.ownsRow B e 2 (.slice (some ⟨g, 0, none⟩) n c) n xs) (hk : k < n) (hl : l.length = n) (hx : ∀ j, j < k * 2 → xs[j]? = (tvals l)[j]?) (hg : l.getD k st0 = (x, y)) :
    ∃ xs', ((w.setCell ⟨g, k * 2, none⟩ (.int .i64 x)).setCell ⟨g, k * 2 + 1, none⟩ (.int .i64 y)).ownsRow B e 2 (.slice (some ⟨g, 0, none⟩) n c) n xs' ∧ ∀ j, j < (k + 1) * 2 → xs'[j]? = (tvals l)[j]? := by
  have hxl : xs.length = n * 2 := ho.1
  refine ⟨_, ((ho.stored (k * 2) _).1.stored (k * 2 + 1) _).1, fun j hj => ?_⟩
  obtain ⟨h1, h2⟩ := tvals_cell l k (by omega)
  rw [hg] at h1 h2
  by_cases e1 : j = k * 2 + 1
  · subst e1
    rw [List.getElem?_set_self (by simp; omega)]
    exact h2.symm
  · rw [List.getElem?_set_ne (by omega)]
    by_cases e0 : j = k * 2
    · subst e0
      rw [List.getElem?_set_self (by omega)]
      exact h1.symm
    · rw [List.getElem?_set_ne (by omega)]
      exact hx j (by omega)
theorem tcells {w : World} {B e g n c k : Nat} {xs : List Value} (ho : w.ownsRow B e 2 (.slice (some ⟨g, 0, none⟩) n c) n xs) (hk : k < n) :
    (∃ u, w.cell? ⟨g, k * 2, none⟩ = some u) ∧ (∃ u, w.cell? ⟨g, k * 2 + 1, none⟩ = some u) := by
  have hxl : xs.length = n * 2 := ho.1
  have h : ∀ j, j < n * 2 → ∃ u, w.cell? ⟨g, j, none⟩ = some u := fun j hj => ⟨xs[j]'(by omega), by rw [ho.cellAt j hj]; exact List.getElem?_eq_getElem _⟩
  exact ⟨h _ (by omega), h _ (by omega)⟩

theorem infoStep : (Try.prog.info? 93).map (fun i => (i.zero, i.size, i.bytes)) = some (some (.agg #[.int .i64 0, .int .i64 0]), 2, 16) := by kernel_rfl

set_option maxHeartbeats 400000 in
theorem toStep_any (x y : Int) (w : World) :
    Calls Try.prog 85 #[.agg #[.int .i64 x, .int .i64 y]] w fun e w' => e = .returned (.agg #[.int .i64 x, .int .i64 y]) ∧ Below w.heap.size w w' := by
  go_enter Try.func85, Try.ntmps85
  go_wp2_with fail
  refine bodyPost_ret (v := .agg #[.int .i64 x, .int .i64 y]) (by simp [results, Try.results85, go_sem]) rfl ⟨rfl, ?_⟩
  exact (((Below.refl _ w).alloc (Nat.le_refl _) _).alloc (by simp) _).alloc (by simp; omega) _

set_option maxHeartbeats 400000 in
theorem eqStep_same (x y : Int) (w : World) :
    Calls Try.prog 90 #[.agg #[.int .i64 x, .int .i64 y], .agg #[.int .i64 x, .int .i64 y]] w fun e w' => e = .returned (.bool true) ∧ Below w.heap.size w w' := by
  go_enter Try.func90, Try.ntmps90
  go_wp2_with fail
  go_ret
  exact ⟨rfl, ((Below.refl _ w).alloc (Nat.le_refl _) _).alloc (by simp) _⟩

set_option maxHeartbeats 400000 in
theorem toStepS_any (A : Option Addr) (n c : Nat) (l : List St) (w : World) (h : HasT w A n l) (hn : n ≤ 16777216) :
    Calls Try.prog 26 #[.slice A n c] w fun e w' => ∃ A', e = .returned (.slice A' n n) ∧ OwnT w' w.heap.size A' n n l ∧ Below w.heap.size w w' := by
  obtain ⟨i0, hi, hz0, hz1, hz2⟩ := info_parts infoStep
  have hvl : (tvals l).length = n * 2 := by rw [tvals_length, h.1]
  go_enter Try.func26, Try.ntmps26
  go_wp2_with (at_make; refine wpList_make_full _ rfl _ _ 39 rfl w.heap.size 93 i0 (.agg #[.int .i64 0, .int .i64 0]) 2 Try.underlying39 hi hz0 hz1 .i64 .i64 _ _ n rfl rfl rfl rfl (by rw [hz2]; omega) (by simp only [maxLen]; omega) (Nat.le_refl _) ?_; intro w1 hown hgrow)
  have hb1 := belowOf hgrow
  go_loopw [4] (fun i wr => ∃ (k : Nat) (xs : List Value), k ≤ n ∧ i = .int .i64 k ∧ wr.ownsRow w.heap.size 93 2 (.slice (some ⟨w.heap.size, 0, none⟩) n n) n xs ∧ (∀ j, j < k * 2 → xs[j]? = (tvals l)[j]?) ∧ Below w.heap.size w wr) (fun i _ => n - (intOf i).toNat)
  case atStart => exact ⟨0, _, Nat.zero_le _, rfl, hown, by intro j hj; omega, hb1⟩
  case round =>
    obtain ⟨k, xs, hk, rfl, ho, hxs, hbk⟩ := hrel
    by_cases hlt : k < n
    · obtain ⟨ad, x, y, rfl, hx, hy, HE⟩ := (h.below hbk).elem hlt
      have HX := Lib.hid hxs
      clear hxs
      have k0 : (0 : Int) ≤ (k : Int) := by omega
      have k1 : (k : Int) < (n : Int) := by omega
      go_wp2_with fail
      refine (toStep_any x y wr).mono ?_
      rintro e w2 ⟨rfl, b2⟩
      have ho2 : w2.ownsRow w.heap.size 93 2 (.slice (some ⟨w.heap.size, 0, none⟩) n n) n xs := ho.kept (grownOf b2 none) (.inr (by simp [Value.ownBlock]))
      obtain ⟨⟨u0, c0⟩, ⟨u1, c1⟩⟩ := tcells ho2 hlt
      have f0 := ho2.frozenAt (k * 2)
      have f1 := ho2.frozenAt (k * 2 + 1)
      have B2 := hbk.trans (b2.mono hbk.size)
      clear ho hx hy
      go_wp2
      obtain ⟨xs', ho3, hx3⟩ := tput ho2 hlt h.1 HX.out HE.out
      go_roundw
      case rel => exact ⟨k + 1, xs', by omega, by go_num, ho3, hx3, (B2.setCell (Nat.le_refl _) _).setCell (Nat.le_refl _) _⟩
      case measure => simp [intOf]; omega
    · obtain rfl : k = n := by omega
      go_wp2
      go_ret
      refine ⟨some ⟨w.heap.size, 0, none⟩, rfl, ⟨h.1, ?_⟩, hbk⟩
      have hxl : xs.length = k * 2 := ho.1
      have e : xs = tvals l := by
        apply List.ext_getElem?
        intro j
        by_cases hj : j < k * 2
        · exact hxs j hj
        · rw [List.getElem?_eq_none (by omega), List.getElem?_eq_none (by omega)]
      rw [← e]
      exact ho

set_option maxHeartbeats 400000 in
theorem szStepS_any (A : Option Addr) (n c : Nat) (x : Int) (w : World) (hx0 : 0 ≤ x) (hx : x ≤ 1048576) (hn : (n : Int) ≤ 9223372036854775807) :
    Calls Try.prog 24 #[.slice A n c, .int .i64 x] w fun e w' => e = .returned (.int .i64 (if x - n < 0 then -1 else x - n)) ∧ w = w' := by
  have hw : IntKind.i64.wrap (x - (n : Int)) = x - n := wrapIn (by omega) (by omega)
  by_cases h : x - n < 0
  · rw [if_pos h]
    go_enter Try.func24, Try.ntmps24
    go_wp2
    go_ret
    exact ⟨rfl, rfl⟩
  · rw [if_neg h]
    go_enter Try.func24, Try.ntmps24
    go_wp2
    go_ret
    exact ⟨rfl, rfl⟩

set_option maxHeartbeats 400000 in
theorem eqStepS_same (A B : Option Addr) (n n' c d : Nat) (l : List St) (w : World) (ha : HasT w A n l) (hb : HasT w B n' l) (hn : n ≤ 16777216) :
    Calls Try.prog 28 #[.slice A n c, .slice B n' d] w fun e w' => e = .returned (.bool true) ∧ Below w.heap.size w w' := by
  obtain rfl : n = n' := ha.1.symm.trans hb.1
  go_enter Try.func28, Try.ntmps28
  go_wp2
  go_loopw [5] (fun i wr => ∃ k : Nat, k ≤ n ∧ i = .int .i64 k ∧ Below w.heap.size w wr) (fun i _ => n - (intOf i).toNat)
  case atStart => exact ⟨0, Nat.zero_le _, rfl, Below.refl _ _⟩
  case round =>
    obtain ⟨k, hk, rfl, hbk⟩ := hrel
    by_cases hlt : k < n
    · obtain ⟨ad, x, y, rfl, hx, hy, HE⟩ := (ha.below hbk).elem hlt
      obtain ⟨bd, x', y', rfl, hx', hy', HE'⟩ := (hb.below hbk).elem hlt
      obtain ⟨rfl, rfl⟩ : x' = x ∧ y' = y := by
        have e := HE.out.symm.trans HE'.out
        injection e with e1 e2
        exact ⟨e1.symm, e2.symm⟩
      have k0 : (0 : Int) ≤ (k : Int) := by omega
      have k1 : (k : Int) < (n : Int) := by omega
      go_wp2_with fail
      go_still_tail 8, (by kernel_rfl)
      change wpList _ _ _ _ _ wr.drew
      have b2 : Below w.heap.size w wr.drew := ⟨hbk.os, hbk.tape, hbk.output, hbk.size, hbk.block⟩
      generalize wr.drew = w2 at b2 ⊢
      clear hx hy hx' hy'
      go_wp2_with fail
      refine (eqStep_same x' y' w2).mono ?_
      rintro e w3 ⟨rfl, b3⟩
      go_wp2_with fail
      go_roundw
      case rel => exact ⟨k + 1, by omega, by go_num, b2.trans (b3.mono b2.size)⟩
      case measure => simp [intOf]; omega
    · go_wp2
      go_ret
      exact ⟨rfl, hbk⟩

/-- The marks m, m + 1, .. in the cells of n steps. -/
def tmarks (m : Int) (n : Nat) : List St := (List.range n).map fun (j : Nat) => (m + 2 * (j : Int), m + 2 * (j : Int) + 1)
theorem tmarks_length (m : Int) (n : Nat) : (tmarks m n).length = n := by simp [tmarks]
theorem tmarks_at (m : Int) (n k : Nat) (h : k < n) : (tmarks m n).getD k st0 = (m + 2 * (k : Int), m + 2 * (k : Int) + 1) := by
  simp [tmarks, List.getD, h]

set_option maxHeartbeats 1000000 in
theorem markStepS_any (A : Option Addr) (B n c : Nat) (m : Int) (l : List St) (w : World) (h : OwnT w B A n c l) (hn : n ≤ 1048576) (hm0 : 0 ≤ m) (hm1 : m ≤ 16777216) :
    Calls Try.prog 33 #[.slice A n c, .int .i64 m] w fun e w' => e = .returned (.int .i64 (m + 2 * (n : Int))) ∧ OwnT w' B A n c (tmarks m n) ∧ w.grownBy w' (blockOf A) := by
  go_enter Try.func33, Try.ntmps33
  go_wp2
  go_loopw [1, 5] (fun q i wr => ∃ (k : Nat) (xs : List Value), k ≤ n ∧ i = .int .i64 k ∧ q = .int .i64 (m + 2 * (k : Int)) ∧ wr.ownsRow B 93 2 (.slice A n c) n xs ∧ (∀ j, j < k * 2 → xs[j]? = (tvals (tmarks m n))[j]?) ∧ w.grownBy wr (blockOf A)) (fun _ i _ => n - (intOf i).toNat)
  case atStart => exact ⟨0, _, Nat.zero_le _, rfl, by simp, h.2, by intro j hj; omega, World.grownBy.refl _ _⟩
  case round =>
    obtain ⟨k, xs, hk, rfl, rfl, ho, hxs, hgk⟩ := hrel
    by_cases hlt : k < n
    · obtain ⟨g, cap, hv, _, _⟩ := ho.form (by omega)
      obtain rfl : A = some ⟨g, 0, none⟩ := by injection hv
      obtain rfl : c = cap := by injection hv
      have HX := Lib.hid hxs
      clear hxs hv
      obtain ⟨⟨u0, c0⟩, ⟨u1, c1⟩⟩ := tcells ho hlt
      have f0 := ho.frozenAt (k * 2)
      have f1 := ho.frozenAt (k * 2 + 1)
      have k0 : (0 : Int) ≤ (k : Int) := by omega
      have k1 : (k : Int) < (n : Int) := by omega
      have w0 : IntKind.i64.wrap (m + 2 * (k : Int) + 1) = m + 2 * (k : Int) + 1 := wrapIn (by omega) (by omega)
      have w1 : IntKind.i64.wrap (m + 2 * (k : Int) + 1 + 1) = m + 2 * ((k + 1 : Nat) : Int) := by rw [wrapIn (by omega) (by omega)]; push_cast; omega
      go_wp2_with fail
      obtain ⟨xs', ho3, hx3⟩ := tput ho hlt (tmarks_length m n) HX.out (tmarks_at m n k hlt)
      go_roundw
      case rel => exact ⟨k + 1, xs', by omega, by go_num, rfl, ho3, hx3, grown_setCell (grown_setCell hgk _ _) _ _⟩
      case measure => simp [intOf]; omega
    · obtain rfl : k = n := by omega
      go_wp2
      go_ret
      refine ⟨rfl, ⟨tmarks_length m k, ?_⟩, hgk⟩
      have hxl : xs.length = k * 2 := ho.1
      have e : xs = tvals (tmarks m k) := by
        apply List.ext_getElem?
        intro j
        by_cases hj : j < k * 2
        · exact hxs j hj
        · rw [List.getElem?_eq_none (by omega), List.getElem?_eq_none (by rw [tvals_length, tmarks_length]; omega)]
      rw [← e]
      exact ho

set_option maxHeartbeats 1000000 in
theorem heldStepS_any (A : Option Addr) (n c : Nat) (m : Int) (w : World) (h : HasT w A n (tmarks m n)) (hn : n ≤ 1048576) (hm0 : 0 ≤ m) (hm1 : m ≤ 16777216) :
    Calls Try.prog 47 #[.slice A n c, .int .i64 m] w fun e w' => e = .returned (.int .i64 (m + 2 * (n : Int))) ∧ w = w' := by
  go_enter Try.func47, Try.ntmps47
  go_wp2
  go_loop [1, 5] (fun q i => ∃ k : Nat, k ≤ n ∧ i = .int .i64 k ∧ q = .int .i64 (m + 2 * (k : Int))) (fun _ i => n - (intOf i).toNat)
  case atStart => exact ⟨0, Nat.zero_le _, rfl, by simp⟩
  case round =>
    obtain ⟨k, hk, rfl, rfl⟩ := hrel
    by_cases hlt : k < n
    · obtain ⟨ad, x, y, rfl, hx, hy, HE⟩ := h.elem hlt
      obtain ⟨rfl, rfl⟩ : x = m + 2 * (k : Int) ∧ y = m + 2 * (k : Int) + 1 := by
        have e := HE.out.symm.trans (tmarks_at m n k hlt)
        injection e with e1 e2
        exact ⟨e1, e2⟩
      have k0 : (0 : Int) ≤ (k : Int) := by omega
      have k1 : (k : Int) < (n : Int) := by omega
      have w0 : IntKind.i64.wrap (m + 2 * (k : Int) + 1) = m + 2 * (k : Int) + 1 := wrapIn (by omega) (by omega)
      have w1 : IntKind.i64.wrap (m + 2 * (k : Int) + 1 + 1) = m + 2 * ((k + 1 : Nat) : Int) := by rw [wrapIn (by omega) (by omega)]; push_cast; omega
      go_wp2_with fail
      go_round
      case rel => exact ⟨k + 1, by omega, by go_num, rfl⟩
      case measure => simp [intOf]; omega
    · obtain rfl : k = n := by omega
      go_wp2
      go_ret
      exact ⟨rfl, rfl⟩

theorem heldStepS_low (A : Option Addr) (n c : Nat) (m : Int) (w : World) (h : HasT w A n (tmarks m n)) (hn : n ≤ 1048576) (hm0 : 0 ≤ m) (hm1 : m ≤ 16777216) :
    Calls Try.prog 47 #[.slice A n c, .int .i64 m] w fun e w' => e = .returned (.int .i64 (m + 2 * (n : Int))) ∧ Below w.heap.size w w' :=
  (heldStepS_any A n c m w h hn hm0 hm1).mono fun _ _ ⟨h1, h2⟩ => ⟨h1, h2 ▸ Below.refl _ _⟩
/-- A list of integers of the call's own whose marks are written: nothing else has turned. -/
theorem spanOfI {w w' wx : World} {B n c : Nat} {zs : List Int} {X : Option Addr} (hg : w.grownBy w' (blockOf X)) (hX : Own wx B X n c zs) : Span B wx.heap.size w w' :=
  (Span.refl B wx.heap.size w).grown hg (fun k hk => by
    cases X with
    | none => simp [blockOf] at hk
    | some x =>
      have h2 := hX.born x rfl
      simp [blockOf] at hk
      omega)

theorem cellsStepL : Try.prog.cellsOf 95 = 2 := by kernel_rfl
/-- A step both of whose numbers fit 64 bits. -/
def T64 (s : St) : Prop := I64 s.1 ∧ I64 s.2
theorem atSomeT {α : Type} {l : List α} {i n : Nat} (hl : l.length = n) (hi : i < n) : ∃ y, l[i]? = some y := ⟨l[i]'(by omega), List.getElem?_eq_getElem _⟩

theorem openStep {H : Type} {enc : TypeId × Value → H} {W : World} {fuel : Nat} {cs : List Value} {x : DataW H × List MemPlace} (h : DataW.trod enc Try.prog W 0 (fun _ => true) true fuel 95 cs = some x) :
    ∃ g : St, cs = [.int .i64 g.1, .int .i64 g.2] ∧ T64 g := by
  obtain ⟨xs, n, _, _, hl, hxl, hf⟩ := DataW.trod_struct Try.underlying95 h
  rw [cellsStepL] at hl
  have hxl' : xs.length = 2 := hxl
  obtain ⟨y0, e0⟩ := atSomeT hxl' (i := 0) (by omega)
  obtain ⟨y1, e1⟩ := atSomeT hxl' (i := 1) (by omega)
  have f0 : DataW.trod enc Try.prog W 0 (fun _ => true) true n 3 ((cs.drop 0).take (Try.prog.cellsOf 3)) = some y0 := (hf 0 _ rfl).trans e0
  have f1 : DataW.trod enc Try.prog W 0 (fun _ => true) true n 3 ((cs.drop 1).take (Try.prog.cellsOf 3)) = some y1 := (hf 1 _ rfl).trans e1
  rw [cellsInt] at f0 f1
  obtain ⟨z0, h0, _, w0⟩ := DataW.trod_int Try.underlying3 f0
  obtain ⟨z1, h1, _, w1⟩ := DataW.trod_int Try.underlying3 f1
  match cs, hl with
  | [a, b], _ =>
    simp at h0 h1
    subst h0 h1
    exact ⟨(z0, z1), rfl, I64.of w0, I64.of w1⟩

theorem openSteps {H : Type} {enc : TypeId × Value → H} {W : World} {base : Nat} {v : Value} {d : DataW H} {ps : List MemPlace} (hv : Value.okWide Try.prog W .any base 36 v)
    (h : DataW.Trod enc Try.prog W 0 (fun _ => true) true 36 v d ps) :
    ∃ (A : Option Addr) (n c : Nat) (l : List St), v = .slice A n c ∧ HasT W A n l ∧ n ≤ maxLen ∧ n ≤ c ∧ NilOk A n c ∧ ∀ g ∈ l, T64 g := by
  obtain ⟨fuel, hf⟩ := h
  obtain ⟨a0, n0, c0, rfl⟩ := okWide_slice Try.underlying36 hv
  have hcs : (Value.slice a0 n0 c0).cells.toList = [.slice a0 n0 c0] := rfl
  rw [hcs] at hf
  rcases open_slice Try.underlying36 hf with ⟨e, _⟩ | ⟨a, len, cap, m, n, D, Pl, e, _, hlc, hcm, hm, _, hel⟩
  · exact ⟨none, 0, 0, [], by simpa using e, HasT.nil_, Nat.zero_le _, Nat.le_refl _, fun _ => ⟨rfl, rfl⟩, by simp⟩
  · simp only [if_true] at hm
    subst hm
    have hg : ∀ i, i < len → ∃ g : St, (W.cell? (a.add (i * 2)) = some (.int .i64 g.1) ∧ W.cell? ((a.add (i * 2)).add 1) = some (.int .i64 g.2)) ∧ T64 g := by
      intro i hi
      obtain ⟨cs', hc, ht⟩ := hel i (by omega)
      rw [cellsStepL] at hc
      obtain ⟨g, rfl, hw⟩ := openStep ht
      obtain ⟨_, _, hcell⟩ := World.cells?_some hc
      refine ⟨g, ⟨?_, hcell 1 (by omega)⟩, hw⟩
      have := hcell 0 (by omega)
      simpa [Addr.add] using this
    refine ⟨some a, len, m, (List.range len).map fun i => if hi : i < len then Classical.choose (hg i hi) else st0, by simpa using e, ⟨by simp, fun hn => ⟨a, rfl, ?_, fun k hk => ?_⟩⟩, by omega, hlc, (fun e => by cases e), ?_⟩
    · obtain ⟨g, ⟨h0, _⟩, _⟩ := hg 0 hn
      have h1 := World.block_lt_of_cell? W _ h0
      rwa [addBlock] at h1
    · have e : ((List.range len).map fun i => if hi : i < len then Classical.choose (hg i hi) else st0).getD k st0 = Classical.choose (hg k hk) := by simp [List.getD, hk]
      rw [e]
      exact (Classical.choose_spec (hg k hk)).1
    · intro g hgm
      obtain ⟨i, hi, rfl⟩ := List.mem_map.1 hgm
      have hi' : i < len := by simpa using hi
      rw [dif_pos hi']
      exact (Classical.choose_spec (hg i hi')).2

end Go.Proofs.Yteiibneaihdmbaa
