/- What the helpers of the exact laws do with lines of programs: a copy, a comparison. For lists of at most 1048576 elements. -/
import Derived.Test.YtcbofogmfelpkaaDoorLn2
namespace Go.Proofs.YtcbofogmfelpkaaDoor
open Go Go.RowKit
set_option maxRecDepth 100000

theorem Blk.seven {w : World} {g : Nat} {a b c d e f h : Value} {t : TypeId} (p : Blk w g #[a, b, c, d, e, f, h] t) : (w.cell? ⟨g, 0, none⟩ = some a ∧ w.cell? ⟨g, 1, none⟩ = some b ∧ w.cell? ⟨g, 2, none⟩ = some c ∧ w.cell? ⟨g, 3, none⟩ = some d ∧ w.cell? ⟨g, 4, none⟩ = some e ∧ w.cell? ⟨g, 5, none⟩ = some f ∧ w.cell? ⟨g, 6, none⟩ = some h) ∧ (w.frozen? ⟨g, 0, none⟩ = false ∧ w.frozen? ⟨g, 1, none⟩ = false ∧ w.frozen? ⟨g, 2, none⟩ = false ∧ w.frozen? ⟨g, 3, none⟩ = false ∧ w.frozen? ⟨g, 4, none⟩ = false ∧ w.frozen? ⟨g, 5, none⟩ = false ∧ w.frozen? ⟨g, 6, none⟩ = false) :=
  ⟨⟨p.cell (i := 0) rfl, p.cell (i := 1) rfl, p.cell (i := 2) rfl, p.cell (i := 3) rfl, p.cell (i := 4) rfl, p.cell (i := 5) rfl, p.cell (i := 6) rfl⟩, ⟨p.free 0, p.free 1, p.free 2, p.free 3, p.free 4, p.free 5, p.free 6⟩⟩

set_option maxRecDepth 100000 in
set_option maxHeartbeats 2000000 in
theorem toLine_any (kd : Int) (nm o : ByteArray) (ps : List ByteArray) (py wd vl : Int) (P : Option Addr) (m d : Nat) (w : World) (h : HasS w P m ps) (hm : m ≤ 16777216) :
    Calls Tryd.prog 44 #[.agg #[.int .i64 kd, .string nm, .string o, .slice P m d, .int .i64 py, .int .i64 wd, .int .i64 vl]] w fun e w' => ∃ A', e = .returned (.agg #[.int .i64 kd, .string nm, .string o, .slice A' m m, .int .i64 py, .int .i64 wd, .int .i64 vl]) ∧ Strs w' w.heap.size (.slice A' m m) m ps ∧ Below w.heap.size w w' := by
  obtain ⟨W1, hW1⟩ : ∃ W, W = w.alloc (.cells #[.int .i64 kd, .string nm, .string o, .slice P m d, .int .i64 py, .int .i64 wd, .int .i64 vl] 52) := ⟨_, rfl⟩
  obtain ⟨W2, hW2⟩ : ∃ W, W = W1.alloc (.cells #[.int .i64 0, .string ⟨#[]⟩, .string ⟨#[]⟩, .slice none 0 0, .int .i64 0, .int .i64 0, .int .i64 0] 53) := ⟨_, rfl⟩
  obtain ⟨W3, hW3⟩ : ∃ W, W = W2.alloc (.cells #[.int .i64 kd, .string nm, .string o, .slice none 0 0, .int .i64 0, .int .i64 0, .int .i64 0] 53) := ⟨_, rfl⟩
  have s1 : W1.heap.size = w.heap.size + 1 := by rw [hW1]; simp
  have s2 : W2.heap.size = w.heap.size + 1 + 1 := by rw [hW2]; simp [s1]
  have s3 : W3.heap.size = w.heap.size + 1 + 1 + 1 := by rw [hW3]; simp [s2]
  have p0 : Blk W3 w.heap.size #[.int .i64 kd, .string nm, .string o, .slice P m d, .int .i64 py, .int .i64 wd, .int .i64 vl] 52 := by rw [hW3, hW2, hW1]; exact ((Blk.new _ _ _).alloc _).alloc _
  have p1 : Blk W3 (w.heap.size + 1) #[.int .i64 0, .string ⟨#[]⟩, .string ⟨#[]⟩, .slice none 0 0, .int .i64 0, .int .i64 0, .int .i64 0] 53 := by rw [hW3, hW2]; exact (Blk.newAt _ _ _ s1.symm).alloc _
  have p2 : Blk W3 (w.heap.size + 1 + 1) #[.int .i64 kd, .string nm, .string o, .slice none 0 0, .int .i64 0, .int .i64 0, .int .i64 0] 53 := by rw [hW3]; exact Blk.newAt _ _ _ s2.symm
  have B3 : Below w.heap.size w W3 := by rw [hW3, hW2, hW1]; exact (((Below.refl _ w).alloc (Nat.le_refl _) _).alloc (by simp) _).alloc (by simp; omega) _
  have HS := h.below B3
  clear h
  go_enter Tryd.func44, Tryd.ntmps44
  go_wp2_with fail
  rw [← hW1, ← hW2, ← hW3]
  clear hW1 hW2 hW3
  refine (toStringS_any P m d ps W3 HS hm).mono ?_
  rintro e w1 ⟨A', rfl, oG, b1⟩
  have q0 := p0.below' b1
  have q1 := p1.below' b1
  have q2 := p2.below' b1
  have t1 := b1.size
  have B4 := B3.trans (b1.mono B3.size)
  obtain ⟨⟨c00, c01, c02, c03, c04, c05, c06⟩, _⟩ := q0.seven
  obtain ⟨⟨c20, c21, c22, c23, c24, c25, c26⟩, f20, f21, f22, f23, f24, f25, f26⟩ := q2.seven
  obtain ⟨⟨c10, c11, c12, c13, c14, c15, c16⟩, f10, f11, f12, f13, f14, f15, f16⟩ := q1.seven
  have HK := Lib.hid (And.intro q1 (And.intro B4 oG))
  clear p0 p1 p2 HS B3 b1 q0 q1 q2 B4 oG
  go_wp2_with fail
  obtain ⟨q1, B4, oG⟩ := HK.out
  obtain ⟨W5, hW5⟩ : ∃ W, W = (((w1.setCell ⟨w.heap.size + 1 + 1, 3, none⟩ (.slice A' m m)).setCell ⟨w.heap.size + 1 + 1, 4, none⟩ (.int .i64 py)).setCell ⟨w.heap.size + 1 + 1, 5, none⟩ (.int .i64 wd)).setCell ⟨w.heap.size + 1 + 1, 6, none⟩ (.int .i64 vl) := ⟨_, rfl⟩
  rw [← hW5]
  have g5 : w1.grownBy W5 (some (w.heap.size + 1 + 1)) := by rw [hW5]; exact grown_setCell (grown_setCell (grown_setCell (grown_setCell (World.grownBy.refl _ _) _ _) _ _) _ _) _ _
  have r1 : Blk W5 (w.heap.size + 1) #[.int .i64 0, .string ⟨#[]⟩, .string ⟨#[]⟩, .slice none 0 0, .int .i64 0, .int .i64 0, .int .i64 0] 53 := q1.grown g5 (by simp)
  have B5 : Below w.heap.size w W5 := B4.grown g5 (by omega) (fun k hk => by simp at hk; omega)
  have o5 := oG.kept g5 (fun ad e => by have := (oG.born ad e).1; simp; omega)
  have t5 := g5.size
  obtain ⟨W8, hW8⟩ : ∃ W, W = ((((((W5.setCell ⟨w.heap.size + 1, 0, none⟩ (.int .i64 kd)).setCell ⟨w.heap.size + 1, 1, none⟩ (.string nm)).setCell ⟨w.heap.size + 1, 2, none⟩ (.string o)).setCell ⟨w.heap.size + 1, 3, none⟩ (.slice A' m m)).setCell ⟨w.heap.size + 1, 4, none⟩ (.int .i64 py)).setCell ⟨w.heap.size + 1, 5, none⟩ (.int .i64 wd)).setCell ⟨w.heap.size + 1, 6, none⟩ (.int .i64 vl) := ⟨_, rfl⟩
  rw [← hW8]
  have g8 : W5.grownBy W8 (some (w.heap.size + 1)) := by rw [hW8]; exact grown_setCell (grown_setCell (grown_setCell (grown_setCell (grown_setCell (grown_setCell (grown_setCell (World.grownBy.refl _ _) _ _) _ _) _ _) _ _) _ _) _ _) _ _
  have v8 : Blk W8 (w.heap.size + 1) #[.int .i64 kd, .string nm, .string o, .slice A' m m, .int .i64 py, .int .i64 wd, .int .i64 vl] 53 := by rw [hW8]; exact ((((((r1.set 0 _).set 1 _).set 2 _).set 3 _).set 4 _).set 5 _).set 6 _
  have B8 : Below w.heap.size w W8 := B5.grown g8 (by omega) (fun k hk => by simp at hk; omega)
  have o8 := o5.kept g8 (fun ad e => by have := (o5.born ad e).1; simp; omega)
  obtain ⟨⟨e0, e1, e2, e3, e4, e5, e6⟩, _⟩ := v8.seven
  refine bodyPost_ret (v := .agg #[.int .i64 kd, .string nm, .string o, .slice A' m m, .int .i64 py, .int .i64 wd, .int .i64 vl]) (by simp [results, Tryd.results44, go_sem, e0, e1, e2, e3, e4, e5, e6]) rfl ⟨A', rfl, o8.mono (by omega), B8⟩

set_option maxRecDepth 100000 in
set_option maxHeartbeats 2000000 in
theorem eqLine_same (kd : Int) (nm o : ByteArray) (ps : List ByteArray) (py wd vl : Int) (P P' : Option Addr) (m d m' d' : Nat) (w : World) (h : HasS w P m ps) (h' : HasS w P' m' ps) (hm : m ≤ 16777216) :
    Calls Tryd.prog 52 #[.agg #[.int .i64 kd, .string nm, .string o, .slice P m d, .int .i64 py, .int .i64 wd, .int .i64 vl], .agg #[.int .i64 kd, .string nm, .string o, .slice P' m' d', .int .i64 py, .int .i64 wd, .int .i64 vl]] w fun e w' => e = .returned (.bool true) ∧ Below w.heap.size w w' := by
  obtain ⟨W1, hW1⟩ : ∃ W, W = w.alloc (.cells #[.int .i64 kd, .string nm, .string o, .slice P m d, .int .i64 py, .int .i64 wd, .int .i64 vl] 53) := ⟨_, rfl⟩
  obtain ⟨W2, hW2⟩ : ∃ W, W = W1.alloc (.cells #[.int .i64 kd, .string nm, .string o, .slice P' m' d', .int .i64 py, .int .i64 wd, .int .i64 vl] 53) := ⟨_, rfl⟩
  have s1 : W1.heap.size = w.heap.size + 1 := by rw [hW1]; simp
  have p0 : Blk W2 w.heap.size #[.int .i64 kd, .string nm, .string o, .slice P m d, .int .i64 py, .int .i64 wd, .int .i64 vl] 53 := by rw [hW2, hW1]; exact (Blk.new _ _ _).alloc _
  have p1 : Blk W2 (w.heap.size + 1) #[.int .i64 kd, .string nm, .string o, .slice P' m' d', .int .i64 py, .int .i64 wd, .int .i64 vl] 53 := by rw [hW2]; exact Blk.newAt _ _ _ s1.symm
  have B2 : Below w.heap.size w W2 := by rw [hW2, hW1]; exact ((Below.refl _ w).alloc (Nat.le_refl _) _).alloc (by simp) _
  have HE := Lib.hid (eqStringS_same P P' m m' d d' ps W2 (h.below B2) (h'.below B2) hm)
  clear h h'
  go_enter Tryd.func52, Tryd.ntmps52
  go_wp2_with fail
  rw [← hW1, ← hW2]
  clear hW1 hW2
  refine (HE.out).mono ?_
  rintro e w1 ⟨rfl, b1⟩
  obtain ⟨⟨c00, c01, c02, c03, c04, c05, c06⟩, _⟩ := (p0.below' b1).seven
  obtain ⟨⟨c10, c11, c12, c13, c14, c15, c16⟩, _⟩ := (p1.below' b1).seven
  have B4 := B2.trans (b1.mono B2.size)
  go_wp2_with fail
  go_ret
  exact ⟨rfl, B4⟩

/-- A row of lines that is being filled: the first k lines are laid. -/
structure FillL (w : World) (B : Nat) (g n k : Nat) (ls : List Ln) (F : Nat → Option Addr × Nat × Nat) : Prop where
  len : ls.length = n
  row : ∃ vs : List Value, w.ownsRow B 53 7 (.slice (some ⟨g, 0, none⟩) n n) n vs ∧ ∀ j, j < k → ∀ i, i < 7 → vs[j * 7 + i]? = (lnCells (lnAt ls j) (F j).1 (F j).2.1 (F j).2.2)[i]?
  parts : ∀ j, j < k → Strs w B (.slice (F j).1 (F j).2.1 (F j).2.2) (F j).2.1 (lnAt ls j).parts
  apart : ∀ i j, i < j → j < k → ∀ a b : Addr, (F i).1 = some a → (F j).1 = some b → a.block ≠ b.block
section
variable {w w' : World} {B g n k : Nat} {ls : List Ln} {F : Nat → Option Addr × Nat × Nat}
theorem FillL.below (h : FillL w B g n k ls F) (hb : Below w.heap.size w w') : FillL w' B g n k ls F := by
  obtain ⟨vs, h1, h2⟩ := h.row
  exact ⟨h.len, ⟨vs, h1.kept (grownOf hb none) (.inr (fun e => by cases e)), h2⟩, fun j hj => (h.parts j hj).below hb, h.apart⟩
theorem FillL.lt (h : FillL w B g n k ls F) : B ≤ g ∧ g < w.heap.size := by
  obtain ⟨vs, h1, h2⟩ := h.row
  exact h1.lt g rfl
theorem FillL.cells (h : FillL w B g n k ls F) {j : Nat} (hj : j < n * 7) : (∃ u, w.cell? ⟨g, j, none⟩ = some u) ∧ w.frozen? ⟨g, j, none⟩ = false := by
  obtain ⟨vs, h1, h2⟩ := h.row
  have hl : vs.length = n * 7 := h1.1
  exact ⟨⟨vs[j]'(by omega), by rw [h1.cellAt j hj]; exact List.getElem?_eq_getElem _⟩, h1.frozenAt j⟩
theorem FillL.full (h : FillL w B g n n ls F) {T : Nat} (hg : g < T) (hF : ∀ j, j < n → ∀ a : Addr, (F j).1 = some a → a.block < T) : OwnL w B T (some ⟨g, 0, none⟩) n n ls F :=
  ⟨h.len, h.row, h.parts, fun a e => by injection e with e; rw [← e]; exact hg, hF, h.apart⟩
/-- One line more is laid. -/
theorem FillL.put (h : FillL w B g n k ls F) (hk : k < n) {P : Option Addr} {m d : Nat} {C : Nat} (hp : Strs w C (.slice P m d) m (lnAt ls k).parts) (hC : B ≤ C) (hlow : ∀ j, j < k → ∀ a : Addr, (F j).1 = some a → a.block < C) (hw' : w' = ((((((w.setCell ⟨g, k * 7, none⟩ (.int .i64 (lnAt ls k).kind)).setCell ⟨g, k * 7 + 1, none⟩ (.string (lnAt ls k).name)).setCell ⟨g, k * 7 + 2, none⟩ (.string (lnAt ls k).op)).setCell ⟨g, k * 7 + 3, none⟩ (.slice P m d)).setCell ⟨g, k * 7 + 4, none⟩ (.int .i64 (lnAt ls k).party)).setCell ⟨g, k * 7 + 5, none⟩ (.int .i64 (lnAt ls k).width)).setCell ⟨g, k * 7 + 6, none⟩ (.int .i64 (lnAt ls k).value)) :
    FillL w' B g n (k + 1) ls (fun j => if j = k then (P, m, d) else F j) ∧ w.grownBy w' (some g) := by
  obtain ⟨vs, ho, hx⟩ := h.row
  have hl : vs.length = n * 7 := ho.1
  have st0 := (ho.stored (k * 7) (.int .i64 (lnAt ls k).kind)).1
  have st1 := (st0.stored (k * 7 + 1) (.string (lnAt ls k).name)).1
  have st2 := (st1.stored (k * 7 + 2) (.string (lnAt ls k).op)).1
  have st3 := (st2.stored (k * 7 + 3) (.slice P m d)).1
  have st4 := (st3.stored (k * 7 + 4) (.int .i64 (lnAt ls k).party)).1
  have st5 := (st4.stored (k * 7 + 5) (.int .i64 (lnAt ls k).width)).1
  have st := (st5.stored (k * 7 + 6) (.int .i64 (lnAt ls k).value)).1
  clear st0 st1 st2 st3 st4 st5
  rw [← hw'] at st
  have hg : w.grownBy w' (some g) := by rw [hw']; exact grown_setCell (grown_setCell (grown_setCell (grown_setCell (grown_setCell (grown_setCell (grown_setCell (World.grownBy.refl _ _) _ _) _ _) _ _) _ _) _ _) _ _) _ _
  have hpg : ∀ {Q : Option Addr} {q r D : Nat} {ts : List ByteArray}, Strs w D (.slice Q q r) q ts → Strs w' D (.slice Q q r) q ts := fun hs => hs.kept hg (fun a e => by
    have := rowApart ho hs ⟨g, 0, none⟩ a rfl e
    simp
    exact fun e' => this e'.symm)
  refine ⟨⟨h.len, ⟨_, st, fun j hj i hi => ?_⟩, fun j hj => ?_, fun i j hij hj a b ha hb => ?_⟩, hg⟩
  · by_cases e : j = k
    · subst e
      simp only [if_true]
      rcases (by omega : i = 0 ∨ i = 1 ∨ i = 2 ∨ i = 3 ∨ i = 4 ∨ i = 5 ∨ i = 6) with rfl | rfl | rfl | rfl | rfl | rfl | rfl
      · rw [List.getElem?_set_ne (by omega), List.getElem?_set_ne (by omega), List.getElem?_set_ne (by omega), List.getElem?_set_ne (by omega), List.getElem?_set_ne (by omega), List.getElem?_set_ne (by omega), Nat.add_zero, List.getElem?_set_self (by omega)]; rfl
      · rw [List.getElem?_set_ne (by omega), List.getElem?_set_ne (by omega), List.getElem?_set_ne (by omega), List.getElem?_set_ne (by omega), List.getElem?_set_ne (by omega), List.getElem?_set_self (by simp; omega)]; rfl
      · rw [List.getElem?_set_ne (by omega), List.getElem?_set_ne (by omega), List.getElem?_set_ne (by omega), List.getElem?_set_ne (by omega), List.getElem?_set_self (by simp; omega)]; rfl
      · rw [List.getElem?_set_ne (by omega), List.getElem?_set_ne (by omega), List.getElem?_set_ne (by omega), List.getElem?_set_self (by simp; omega)]; rfl
      · rw [List.getElem?_set_ne (by omega), List.getElem?_set_ne (by omega), List.getElem?_set_self (by simp; omega)]; rfl
      · rw [List.getElem?_set_ne (by omega), List.getElem?_set_self (by simp; omega)]; rfl
      · rw [List.getElem?_set_self (by simp; omega)]; rfl
    · simp only [e, if_false]
      rw [List.getElem?_set_ne (by omega), List.getElem?_set_ne (by omega), List.getElem?_set_ne (by omega), List.getElem?_set_ne (by omega), List.getElem?_set_ne (by omega), List.getElem?_set_ne (by omega), List.getElem?_set_ne (by omega)]
      exact hx j (by omega) i hi
  · by_cases e : j = k
    · subst e
      simp only [if_true]
      exact hpg (hp.mono hC)
    · simp only [e, if_false]
      exact hpg (h.parts j (by omega))
  · by_cases e : j = k
    · subst e
      simp only [if_true] at hb
      have ei : i ≠ j := by omega
      simp only [ei, if_false] at ha
      have h1 := hlow i (by omega) a ha
      have h2 := (hp.born b hb).1
      omega
    · have ei : i ≠ k := by omega
      simp only [e, ei, if_false] at ha hb
      exact h.apart i j hij (by omega) a b ha hb
end

theorem infoLine : (Tryd.prog.info? 53).map (fun i => (i.zero, i.size, i.bytes)) = some (some (.agg #[.int .i64 0, .string ByteArray.empty, .string ByteArray.empty, .slice none 0 0, .int .i64 0, .int .i64 0, .int .i64 0]), 7, 88) := by kernel_rfl

set_option maxRecDepth 100000 in
set_option maxHeartbeats 2000000 in
theorem toLineS_any (A : Option Addr) (n c : Nat) (ls : List Ln) (w : World) (h : HasL w A n ls) (hn : n ≤ 1048576) (hz : ∀ j, j < n → FitL (lnAt ls j)) :
    Calls Tryd.prog 14 #[.slice A n c] w fun e w' => ∃ A' F, e = .returned (.slice A' n n) ∧ OwnL w' w.heap.size w'.heap.size A' n n ls F ∧ Below w.heap.size w w' := by
  obtain ⟨i0, hi, hz0, hz1, hz2⟩ := info_parts infoLine
  have HH := Lib.hid h
  have HL : Hid (ls.length = n) := h.1
  have HZ := Lib.hid hz
  clear h hz
  go_enter Tryd.func14, Tryd.ntmps14
  go_wp2_with (at_make; refine wpList_make_full _ rfl _ _ 25 rfl w.heap.size 53 i0 (.agg #[.int .i64 0, .string ByteArray.empty, .string ByteArray.empty, .slice none 0 0, .int .i64 0, .int .i64 0, .int .i64 0]) 7 Tryd.underlying25 hi hz0 hz1 .i64 .i64 _ _ n rfl rfl rfl rfl (by rw [hz2]; omega) (by simp only [maxLen]; omega) (Nat.le_refl _) ?_; intro w1 hown hgrow)
  have hb1 := belowOf hgrow
  have hf : FillL w1 w.heap.size w.heap.size n 0 ls (fun _ => (none, 0, 0)) := ⟨HL.out, ⟨_, hown, fun j hj => absurd hj (Nat.not_lt_zero _)⟩, fun j hj => absurd hj (Nat.not_lt_zero _), fun i j _ hj => absurd hj (Nat.not_lt_zero _)⟩
  clear hown hgrow
  go_loopw [4] (fun i wr => ∃ (k : Nat) (F : Nat → Option Addr × Nat × Nat), k ≤ n ∧ i = .int .i64 k ∧ FillL wr w.heap.size w.heap.size n k ls F ∧ (∀ j, j < k → ∀ a : Addr, (F j).1 = some a → a.block < wr.heap.size) ∧ Below w.heap.size w wr) (fun i _ => n - (intOf i).toNat)
  case atStart => exact ⟨0, _, Nat.zero_le _, rfl, hf, fun j hj => absurd hj (Nat.not_lt_zero _), hb1⟩
  case round =>
    obtain ⟨k, F, hk, rfl, hfk, hlow, hbk⟩ := hrel
    by_cases hlt : k < n
    · obtain ⟨ad, x, P, m, d, rfl, hc, hp, _, _, HT⟩ := (HH.out.below hbk).elem hlt
      have hfit := HZ.out k hlt
      rw [HT.out] at hfit
      obtain ⟨c0, c1, c2, c3, c4, c5, c6⟩ := hc
      have hpl := hp.1
      have hpm := hfit.plen
      have HLow := Lib.hid hlow
      have k0 : (0 : Int) ≤ (k : Int) := by omega
      have k1 : (k : Int) < (n : Int) := by omega
      have HTo := Lib.hid (toLine_any x.kind x.name x.op x.parts x.party x.width x.value P m d wr hp (by omega))
      clear hp hfit hpl hpm hlow
      go_wp2_with fail
      refine (HTo.out).mono ?_
      rintro e w2 ⟨A', rfl, oS, b2⟩
      have hf2 := hfk.below b2
      have B2 := hbk.trans (b2.mono hbk.size)
      obtain ⟨⟨u0, d0⟩, f0⟩ := hf2.cells (j := k * 7) (by omega)
      obtain ⟨⟨u1, d1⟩, f1⟩ := hf2.cells (j := k * 7 + 1) (by omega)
      obtain ⟨⟨u2, d2⟩, f2⟩ := hf2.cells (j := k * 7 + 2) (by omega)
      obtain ⟨⟨u3, d3⟩, f3⟩ := hf2.cells (j := k * 7 + 3) (by omega)
      obtain ⟨⟨u4, d4⟩, f4⟩ := hf2.cells (j := k * 7 + 4) (by omega)
      obtain ⟨⟨u5, d5⟩, f5⟩ := hf2.cells (j := k * 7 + 5) (by omega)
      obtain ⟨⟨u6, d6⟩, f6⟩ := hf2.cells (j := k * 7 + 6) (by omega)
      have sz := hbk.size
      have sz2 := b2.size
      have HPut : Hid (FillL (((((((w2.setCell ⟨w.heap.size, k * 7, none⟩ (.int .i64 x.kind)).setCell ⟨w.heap.size, k * 7 + 1, none⟩ (.string x.name)).setCell ⟨w.heap.size, k * 7 + 2, none⟩ (.string x.op)).setCell ⟨w.heap.size, k * 7 + 3, none⟩ (.slice A' m m)).setCell ⟨w.heap.size, k * 7 + 4, none⟩ (.int .i64 x.party)).setCell ⟨w.heap.size, k * 7 + 5, none⟩ (.int .i64 x.width)).setCell ⟨w.heap.size, k * 7 + 6, none⟩ (.int .i64 x.value)) w.heap.size w.heap.size n (k + 1) ls (fun j => if j = k then (A', m, m) else F j) ∧ w2.grownBy (((((((w2.setCell ⟨w.heap.size, k * 7, none⟩ (.int .i64 x.kind)).setCell ⟨w.heap.size, k * 7 + 1, none⟩ (.string x.name)).setCell ⟨w.heap.size, k * 7 + 2, none⟩ (.string x.op)).setCell ⟨w.heap.size, k * 7 + 3, none⟩ (.slice A' m m)).setCell ⟨w.heap.size, k * 7 + 4, none⟩ (.int .i64 x.party)).setCell ⟨w.heap.size, k * 7 + 5, none⟩ (.int .i64 x.width)).setCell ⟨w.heap.size, k * 7 + 6, none⟩ (.int .i64 x.value)) (some w.heap.size)) :=
        hf2.put hlt (C := wr.heap.size) (by rw [HT.out]; exact oS) (by omega) HLow.out (by rw [HT.out])
      have HLow2 : Hid (∀ j, j < k + 1 → ∀ a : Addr, ((fun j => if j = k then (A', m, m) else F j) j).1 = some a → a.block < w2.heap.size) := fun j hj a ha => by
        by_cases e : j = k
        · subst e
          simp only [if_true] at ha
          exact (oS.born a ha).2
        · simp only [e, if_false] at ha
          have := HLow.out j (by omega) a ha
          omega
      have HB2 := Lib.hid B2
      clear c0 c1 c2 c3 c4 c5 c6 HTo hf2 oS hfk B2
      go_wp2_with fail
      go_roundw
      case rel =>
        refine ⟨k + 1, _, by omega, by go_num, HPut.out.1, ?_, (((((((HB2.out.setCell (Nat.le_refl _) _).setCell (Nat.le_refl _) _).setCell (Nat.le_refl _) _).setCell (Nat.le_refl _) _).setCell (Nat.le_refl _) _).setCell (Nat.le_refl _) _).setCell (Nat.le_refl _) _)⟩
        intro j hj a ha
        exact Nat.lt_of_lt_of_le (HLow2.out j hj a ha) HPut.out.2.size
      case measure => simp [intOf]; omega
    · obtain rfl : k = n := by omega
      have HOw : Hid (OwnL wr w.heap.size wr.heap.size (some ⟨w.heap.size, 0, none⟩) k k ls F) := hfk.full hfk.lt.2 hlow
      clear hlow
      go_wp2_with fail
      go_ret
      exact ⟨some ⟨w.heap.size, 0, none⟩, F, rfl, HOw.out, hbk⟩

end Go.Proofs.YtcbofogmfelpkaaDoor
