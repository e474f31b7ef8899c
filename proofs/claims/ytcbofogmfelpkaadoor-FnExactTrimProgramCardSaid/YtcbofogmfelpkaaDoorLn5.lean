/- The marks that the exact laws write into lines of programs, and whether they are still there. For lists of at most 1048576 elements. -/
import Derived.Test.YtcbofogmfelpkaaDoorLn4
namespace Go.Proofs.YtcbofogmfelpkaaDoor
open Go Go.RowKit
set_option maxRecDepth 100000

/-- Where the marks of the k-th line begin; the j-th line has (F j).2.1 parts. -/
def offN (F : Nat → Option Addr × Nat × Nat) (m : Nat) : Nat → Nat
  | 0 => m
  | k + 1 => offN F m k + 6 + (F k).2.1
theorem offN_le (F : Nat → Option Addr × Nat × Nat) (m : Nat) {j k : Nat} (h : j ≤ k) : m ≤ offN F m j ∧ offN F m j ≤ offN F m k := by
  induction k with
  | zero =>
    obtain rfl : j = 0 := by omega
    exact ⟨Nat.le_refl _, Nat.le_refl _⟩
  | succ k ih =>
    by_cases e : j = k + 1
    · subst e
      refine ⟨?_, Nat.le_refl _⟩
      clear ih h
      induction k with
      | zero => simp [offN]; omega
      | succ k ih => rw [offN]; omega
    · have := ih (by omega)
      rw [offN]
      omega
/-- The marks of a line with p parts, from o on. -/
def lnMark (o p : Nat) : Ln := ⟨(o : Int), mtx ((o + 1 : Nat) : Int), mtx ((o + 2 : Nat) : Int), smarks ((o + 3 : Nat) : Int) p, ((o + 3 + p : Nat) : Int), ((o + 4 + p : Nat) : Int), ((o + 5 + p : Nat) : Int)⟩
def lmarks (F : Nat → Option Addr × Nat × Nat) (m n : Nat) : List Ln := (List.range n).map fun j => lnMark (offN F m j) (F j).2.1
theorem lmarks_length (F : Nat → Option Addr × Nat × Nat) (m n : Nat) : (lmarks F m n).length = n := by simp [lmarks]
theorem lmarks_at (F : Nat → Option Addr × Nat × Nat) (m n k : Nat) (h : k < n) : lnAt (lmarks F m n) k = lnMark (offN F m k) (F k).2.1 := by
  simp [lmarks, lnAt, h]

/-- A row of lines and the rows of their parts, cell for cell. -/
structure OwnX (w : World) (B T g n c : Nat) (vs : List Value) (F : Nat → Option Addr × Nat × Nat) (tss : Nat → List ByteArray) : Prop where
  row : w.ownsRow B 53 7 (.slice (some ⟨g, 0, none⟩) n c) n vs
  parts : ∀ k, k < n → Strs w B (.slice (F k).1 (F k).2.1 (F k).2.2) (F k).2.1 (tss k)
  top : g < T
  low : ∀ k, k < n → ∀ a : Addr, (F k).1 = some a → a.block < T
  apart : ∀ j k, j < k → k < n → ∀ a b : Addr, (F j).1 = some a → (F k).1 = some b → a.block ≠ b.block
section
variable {w w' W : World} {B T g n c k i : Nat} {vs : List Value} {F : Nat → Option Addr × Nat × Nat} {tss : Nat → List ByteArray} {ts : List ByteArray} {v : Value}
theorem OwnX.below (h : OwnX w B T g n c vs F tss) (hb : Below w.heap.size w w') : OwnX w' B T g n c vs F tss :=
  ⟨h.row.kept (grownOf hb none) (.inr (fun e => by cases e)), fun k hk => (h.parts k hk).below hb, h.top, h.low, h.apart⟩
theorem OwnX.cell (h : OwnX w B T g n c vs F tss) {j : Nat} (hj : j < n * 7) : (∃ u, w.cell? ⟨g, j, none⟩ = some u) ∧ w.frozen? ⟨g, j, none⟩ = false := by
  have hl : vs.length = n * 7 := h.row.1
  exact ⟨⟨vs[j]'(by omega), by rw [h.row.cellAt j hj]; exact List.getElem?_eq_getElem _⟩, h.row.frozenAt j⟩
theorem OwnX.at_ (h : OwnX w B T g n c vs F tss) {j : Nat} (hj : j < n * 7) (hv : vs[j]? = some v) : w.cell? ⟨g, j, none⟩ = some v := by rw [h.row.cellAt j hj, hv]
theorem OwnX.store (h : OwnX w B T g n c vs F tss) (i : Nat) (v : Value) : OwnX (w.setCell ⟨g, i, none⟩ v) B T g n c (vs.set i v) F tss :=
  ⟨(h.row.stored i v).1, fun k hk => (h.parts k hk).kept (h.row.stored i v).2 (fun a e => by
    have := rowApart h.row (h.parts k hk) ⟨g, 0, none⟩ a rfl e
    simp
    exact fun e' => this e'.symm), h.top, h.low, h.apart⟩
theorem OwnX.mark (h : OwnX w B T g n c vs F tss) (hk : k < n) (hg : w.grownBy w' (blockOf (F k).1)) (hs : Strs w' B (.slice (F k).1 (F k).2.1 (F k).2.2) (F k).2.1 ts) : OwnX w' B T g n c vs F (fun j => if j = k then ts else tss j) := by
  refine ⟨h.row.kept hg (.inr ?_), fun j hj => ?_, h.top, h.low, h.apart⟩
  · intro e
    cases hF : (F k).1 with
    | none => rw [hF] at e; cases e
    | some a =>
      rw [hF] at e
      have e' : g = a.block := Option.some.inj e
      exact rowApart h.row (h.parts k hk) ⟨g, 0, none⟩ a rfl hF e'
  · by_cases e : j = k
    · subst e
      simp only [if_true]
      exact hs
    · simp only [e, if_false]
      refine (h.parts j hj).kept hg (fun a ea e2 => ?_)
      cases hF : (F k).1 with
      | none => rw [hF] at e2; cases e2
      | some b =>
        rw [hF] at e2
        have e' : a.block = b.block := Option.some.inj e2
        rcases Nat.lt_or_gt_of_ne e with h1 | h1
        · exact h.apart j k h1 hk a b ea hF e'
        · exact h.apart k j h1 hj b a hF ea e'.symm
theorem OwnX.lt (h : OwnX w B T g n c vs F tss) : B ≤ g ∧ g < w.heap.size := h.row.lt g rfl
theorem OwnX.spanStore (h : OwnX w B T g n c vs F tss) (hs : Span B T W w) (i : Nat) (v : Value) : Span B T W (w.setCell ⟨g, i, none⟩ v) :=
  hs.grown (grown_setCell (World.grownBy.refl w (some g)) i v) (fun x e => by injection e with e; subst e; exact ⟨h.lt.1, h.top⟩)
theorem OwnX.spanMark (h : OwnX w B T g n c vs F tss) (hk : k < n) (hs : Span B T W w) (hg : w.grownBy w' (blockOf (F k).1)) : Span B T W w' :=
  hs.grown hg (fun x e => by
    cases hF : (F k).1 with
    | none => rw [hF] at e; cases e
    | some a =>
      rw [hF] at e
      have e' : a.block = x := Option.some.inj e
      have h1 := (h.parts k hk).born a hF
      have h2 := h.low k hk a hF
      omega)
theorem Span.below (hs : Span B T W w) (hb : Below w.heap.size w w') : Span B T W w' := hs.grown (grownOf hb none) (fun x e => by cases e)
end

/-- What the rows hold when the first k lines bear marks. -/
def Mkd (vs : List Value) (F : Nat → Option Addr × Nat × Nat) (tss : Nat → List ByteArray) (m n k : Nat) : Prop :=
  (∀ j, j < k → ∀ i, i < 7 → vs[j * 7 + i]? = (lnCells (lnMark (offN F m j) (F j).2.1) (F j).1 (F j).2.1 (F j).2.2)[i]?) ∧ (∀ j, j < n → vs[j * 7 + 3]? = some (.slice (F j).1 (F j).2.1 (F j).2.2)) ∧ ∀ j, j < k → tss j = smarks ((offN F m j + 3 : Nat) : Int) (F j).2.1

set_option maxRecDepth 100000 in
set_option maxHeartbeats 4000000 in
theorem markLineS_any (A : Option Addr) (B T n c m : Nat) (ls : List Ln) (F : Nat → Option Addr × Nat × Nat) (w : World) (h : OwnL w B T A n c ls F) (hn : n ≤ 1048576) (hm0 : 0 < m) (hoff : offN F m n ≤ 16777216) :
    Calls Tryd.prog 22 #[.slice A n c, .int .i64 (m : Int)] w fun e w' => e = .returned (.int .i64 ((offN F m n : Nat) : Int)) ∧ OwnL w' B T A n c (lmarks F m n) F ∧ Span B T w w' := by
  by_cases hn0 : n = 0
  · subst hn0
    obtain rfl : ls = [] := List.length_eq_zero_iff.1 h.len
    have HO := Lib.hid h
    clear h hoff
    go_enter Tryd.func22, Tryd.ntmps22
    go_wp2_with fail
    go_loop [1, 5] (fun q i => q = .int .i64 (m : Int) ∧ i = .int .i64 ((0 : Nat) : Int)) (fun _ _ => 0)
    case atStart => exact ⟨rfl, rfl⟩
    case round =>
      obtain ⟨rfl, rfl⟩ := hrel
      go_wp2_with fail
      go_ret
      exact ⟨rfl, HO.out, Span.refl _ _ _⟩
  · obtain ⟨vs0, h1, h2⟩ := h.row
    obtain ⟨g, cap, hv, _, hgl⟩ := h1.form (by omega)
    obtain rfl : A = some ⟨g, 0, none⟩ := by injection hv
    have hX : OwnX w B T g n c vs0 F (fun k => (lnAt ls k).parts) := ⟨h1, h.parts, h.top _ rfl, h.low, h.apart⟩
    have HM0 : Hid (Mkd vs0 F (fun k => (lnAt ls k).parts) m n 0) := ⟨fun j hj => absurd hj (Nat.not_lt_zero _), fun j hj => by rw [h2 j hj 3 (by omega)]; rfl, fun j hj => absurd hj (Nat.not_lt_zero _)⟩
    have HOff := Lib.hid hoff
    have HX0 := Lib.hid hX
    clear h h1 h2 hX hv hoff
    go_enter Tryd.func22, Tryd.ntmps22
    go_wp2_with fail
    go_loopw [1, 5] (fun q i wr => ∃ (k : Nat) (vs : List Value) (tss : Nat → List ByteArray), k ≤ n ∧ i = .int .i64 k ∧ q = .int .i64 ((offN F m k : Nat) : Int) ∧ OwnX wr B T g n c vs F tss ∧ Hid (Mkd vs F tss m n k) ∧ Span B T w wr) (fun _ i _ => n - (intOf i).toNat)
    case atStart => exact ⟨0, _, _, Nat.zero_le _, rfl, rfl, HX0.out, HM0, Span.refl _ _ _⟩
    case round =>
      obtain ⟨k, vs, tss, hk, rfl, rfl, hX, HM, hS⟩ := hrel
      by_cases hlt : k < n
      · have hb1 := offN_le F m (show k + 1 ≤ n from hlt)
        have hb0 := offN_le F m (show k ≤ n by omega)
        have e1 : offN F m (k + 1) = offN F m k + 6 + (F k).2.1 := rfl
        have hb2 := HOff.out
        obtain ⟨P, p, d, hF⟩ : ∃ P p d, F k = (P, p, d) := ⟨_, _, _, rfl⟩
        obtain ⟨o, ho⟩ : ∃ o, offN F m k = o := ⟨_, rfl⟩
        have hpp : (F k).2.1 = p := by rw [hF]
        rw [hpp, ho] at e1
        rw [ho] at hb0
        have ho1 : 0 < o := by omega
        have ho2 : o + 6 + p ≤ 16777216 := by omega
        have HF := Lib.hid hF
        have HO := Lib.hid ho
        have HE1 := Lib.hid e1
        obtain ⟨⟨u0, d0⟩, f0⟩ := hX.cell (j := k * 7) (by omega)
        have k0 : (0 : Int) ≤ (k : Int) := by omega
        have k1 : (k : Int) < (n : Int) := by omega
        have w1 : IntKind.i64.wrap ((o : Int) + 1) = ((o + 1 : Nat) : Int) := by rw [wrapIn (by omega) (by omega)]; omega
        have hX1 := hX.store (k * 7) (.int .i64 (o : Int))
        have hS1 := hX.spanStore hS (k * 7) (.int .i64 (o : Int))
        obtain ⟨W1, hW1⟩ : ∃ W, W = wr.setCell ⟨g, k * 7, none⟩ (.int .i64 (o : Int)) := ⟨_, rfl⟩
        rw [← hW1] at hX1 hS1
        have HT1 := Lib.hid (markText_any (o + 1) W1 (by omega) (by omega))
        rw [ho]
        clear hX hS hF ho hpp e1 hb0 hb1 hb2
        go_wp2_with fail
        rw [← hW1]
        clear hW1 d0 f0 w1
        refine (HT1.out).mono ?_
        rintro e w2 ⟨t1, rfl, HM1, b2⟩
        have hX2 := hX1.below b2
        have hS2 := hS1.below b2
        obtain ⟨⟨u1, d1⟩, f1⟩ := hX2.cell (j := k * 7 + 1) (by omega)
        have hX3 := hX2.store (k * 7 + 1) (.string t1)
        have hS3 := hX2.spanStore hS2 (k * 7 + 1) (.string t1)
        obtain ⟨W3, hW3⟩ : ∃ W, W = w2.setCell ⟨g, k * 7 + 1, none⟩ (.string t1) := ⟨_, rfl⟩
        rw [← hW3] at hX3 hS3
        have w2' : IntKind.i64.wrap (((o + 1 : Nat) : Int) + 1) = ((o + 2 : Nat) : Int) := by rw [wrapIn (by omega) (by omega)]; omega
        have HT2 := Lib.hid (markText_any (o + 2) W3 (by omega) (by omega))
        clear HT1 b2 hX1 hS1 hX2 hS2
        go_wp2_with fail
        rw [← hW3]
        clear hW3 d1 f1 w2'
        refine (HT2.out).mono ?_
        rintro e w4 ⟨t2, rfl, HM2, b4⟩
        have hX4 := hX3.below b4
        have hS4 := hS3.below b4
        obtain ⟨⟨u2, d2⟩, f2⟩ := hX4.cell (j := k * 7 + 2) (by omega)
        have hX5 := hX4.store (k * 7 + 2) (.string t2)
        have hS5 := hX4.spanStore hS4 (k * 7 + 2) (.string t2)
        have hv3 : ((((vs.set (k * 7) (.int .i64 (o : Int))).set (k * 7 + 1) (.string t1)).set (k * 7 + 2) (.string t2))[k * 7 + 3]?) = some (.slice P p d) := by
          rw [List.getElem?_set_ne (by omega), List.getElem?_set_ne (by omega), List.getElem?_set_ne (by omega), HM.out.2.1 k hlt, HF.out]
        have hp5 := hX5.parts k hlt
        rw [HF.out] at hp5
        have c3 := hX4.at_ (j := k * 7 + 3) (v := .slice P p d) (by omega) (by
          rw [List.getElem?_set_ne (by omega)] at hv3
          exact hv3)
        obtain ⟨W5, hW5⟩ : ∃ W, W = w4.setCell ⟨g, k * 7 + 2, none⟩ (.string t2) := ⟨_, rfl⟩
        rw [← hW5] at hX5 hS5 hp5
        have w3' : IntKind.i64.wrap (((o + 2 : Nat) : Int) + 1) = ((o + 3 : Nat) : Int) := by rw [wrapIn (by omega) (by omega)]; omega
        have HT3 := Lib.hid (markStringS_any P B p d (o + 3) _ W5 hp5 (by omega) (by omega) (by omega))
        have HV3 := Lib.hid hv3
        clear HT2 b4 hX3 hS3 hX4 hS4 hp5 hv3
        go_wp2_with fail
        rw [← hW5]
        clear hW5 d2 f2 w3' c3
        refine (HT3.out).mono ?_
        rintro e w6 ⟨rfl, hs6, g6⟩
        have g6' : W5.grownBy w6 (blockOf (F k).1) := by rw [HF.out]; exact g6
        have hX6 := hX5.mark hlt g6' (by rw [HF.out]; exact hs6)
        have hS6 := hX5.spanMark hlt hS5 g6'
        obtain ⟨⟨u4, d4⟩, f4⟩ := hX6.cell (j := k * 7 + 4) (by omega)
        obtain ⟨⟨u5, d5⟩, f5⟩ := hX6.cell (j := k * 7 + 5) (by omega)
        obtain ⟨⟨u6, d6⟩, f6⟩ := hX6.cell (j := k * 7 + 6) (by omega)
        have HX9 := Lib.hid (((hX6.store (k * 7 + 4) (.int .i64 ((o : Int) + 3 + (p : Int)))).store (k * 7 + 5) (.int .i64 ((o : Int) + 3 + (p : Int) + 1))).store (k * 7 + 6) (.int .i64 ((o : Int) + 3 + (p : Int) + 1 + 1)))
        have HS9 := Lib.hid (((hX6.store (k * 7 + 4) (.int .i64 ((o : Int) + 3 + (p : Int)))).store (k * 7 + 5) (.int .i64 ((o : Int) + 3 + (p : Int) + 1))).spanStore ((hX6.store (k * 7 + 4) (.int .i64 ((o : Int) + 3 + (p : Int)))).spanStore (hX6.spanStore hS6 (k * 7 + 4) (.int .i64 ((o : Int) + 3 + (p : Int)))) (k * 7 + 5) (.int .i64 ((o : Int) + 3 + (p : Int) + 1))) (k * 7 + 6) (.int .i64 ((o : Int) + 3 + (p : Int) + 1 + 1)))
        have HLv : Hid (vs.length = n * 7) := by
          have := hX6.row.1
          show vs.length = n * 7
          simpa using this
        clear HT3 hX5 hS5 hX6 hS6 g6 g6' hs6
        go_wp2_with fail
        go_roundw
        case rel =>
          refine ⟨k + 1, _, _, by omega, by go_num, ?_, HX9.out, ?_, HS9.out⟩
          · rw [HE1.out]
            congr 1
            omega
          · have hl := HLv.out
            refine ⟨fun j hj i hi => ?_, fun j hj => ?_, fun j hj => ?_⟩
            · by_cases e : j = k
              · subst e
                have hF := HF.out
                rw [HO.out, hF]
                simp only
                rcases (by omega : i = 0 ∨ i = 1 ∨ i = 2 ∨ i = 3 ∨ i = 4 ∨ i = 5 ∨ i = 6) with rfl | rfl | rfl | rfl | rfl | rfl | rfl
                · rw [List.getElem?_set_ne (by omega), List.getElem?_set_ne (by omega), List.getElem?_set_ne (by omega), List.getElem?_set_ne (by omega), List.getElem?_set_ne (by omega), Nat.add_zero, List.getElem?_set_self (by omega)]; rfl
                · rw [List.getElem?_set_ne (by omega), List.getElem?_set_ne (by omega), List.getElem?_set_ne (by omega), List.getElem?_set_ne (by omega), List.getElem?_set_self (by simp; omega), HM1.out]; rfl
                · rw [List.getElem?_set_ne (by omega), List.getElem?_set_ne (by omega), List.getElem?_set_ne (by omega), List.getElem?_set_self (by simp; omega), HM2.out]; rfl
                · rw [List.getElem?_set_ne (by omega), List.getElem?_set_ne (by omega), List.getElem?_set_ne (by omega), HV3.out]; rfl
                · rw [List.getElem?_set_ne (by omega), List.getElem?_set_ne (by omega), List.getElem?_set_self (by simp; omega)]; rfl
                · rw [List.getElem?_set_ne (by omega), List.getElem?_set_self (by simp; omega)]; show _ = some (Value.int .i64 ((o + 4 + p : Nat) : Int)); congr 2; omega
                · rw [List.getElem?_set_self (by simp; omega)]; show _ = some (Value.int .i64 ((o + 5 + p : Nat) : Int)); congr 2; omega
              · rw [List.getElem?_set_ne (by omega), List.getElem?_set_ne (by omega), List.getElem?_set_ne (by omega), List.getElem?_set_ne (by omega), List.getElem?_set_ne (by omega), List.getElem?_set_ne (by omega)]
                exact HM.out.1 j (by omega) i hi
            · rw [List.getElem?_set_ne (by omega), List.getElem?_set_ne (by omega), List.getElem?_set_ne (by omega), List.getElem?_set_ne (by omega), List.getElem?_set_ne (by omega), List.getElem?_set_ne (by omega)]
              exact HM.out.2.1 j hj
            · by_cases e : j = k
              · subst e
                simp only [if_true]
                rw [HO.out, HF.out]
              · simp only [e, if_false]
                exact HM.out.2.2 j (by omega)
        case measure => simp [intOf]; omega
      · obtain rfl : k = n := by omega
        have HR : Hid (OwnL wr B T (some ⟨g, 0, none⟩) k c (lmarks F m k) F) := ⟨lmarks_length _ _ _, ⟨vs, hX.row, fun j hj i hi => by rw [lmarks_at _ _ _ _ hj]; exact HM.out.1 j hj i hi⟩, fun j hj => by
          have := hX.parts j hj
          rw [HM.out.2.2 j hj] at this
          rw [lmarks_at _ _ _ _ hj]
          exact this, fun a e => by injection e with e; subst e; exact hX.top, hX.low, hX.apart⟩
        go_wp2_with fail
        go_ret
        exact ⟨rfl, HR.out, hS⟩

end Go.Proofs.YtcbofogmfelpkaaDoor
