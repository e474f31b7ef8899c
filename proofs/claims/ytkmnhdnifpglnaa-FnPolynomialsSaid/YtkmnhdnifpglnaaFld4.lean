/- The library's walk over a list from behind (slices.Backward), and the value of a polynomial, the program's by that walk and the model's by a counter: both by Horner's rule. For slices of at most 16777216 elements of the field. -/
import Derived.Test.YtkmnhdnifpglnaaFld3
import Derived.RangeFuncBox
import Derived.RangeFuncLeaves
import Derived.Shelf.Abstract
import Derived.OwnWalkIn
import Derived.TacticsInMore
import Derived.LoopNIn
import Derived.LoopIn
namespace Go.Proofs.Ytkmnhdnifpglnaa
open Go.RowKit Go.Shelf
attribute [local go_sem] Oper.semAt_some

/-- The value by Horner's rule, from behind. -/
def evM (p x : Int) (zs : List Int) : Int := zs.foldr (fun c v => (v * x + c) % p) 0
theorem evM_in {p x : Int} {zs : List Int} (h : 2 ≤ p) : 0 ≤ evM p x zs ∧ evM p x zs < p := by
  cases zs with
  | nil => exact ⟨Int.le_refl _, by show (0 : Int) < p; omega⟩
  | cons c l => exact modIn h
theorem evM_drop {p x : Int} {zs : List Int} {k : Nat} (h : k < zs.length) : evM p x (zs.drop k) = (evM p x (zs.drop (k + 1)) * x + zs.getD k 0) % p := by
  unfold evM
  rw [List.drop_eq_getElem_cons h, List.foldr_cons, List.getD, List.getElem?_eq_getElem h, Option.getD_some]
theorem evM_end {p x : Int} {zs : List Int} : evM p x (zs.drop zs.length) = 0 := by simp [evM]

/-- Horner's step fits. -/
theorem hornerFits {p v x c : Int} (hp : p ≤ 251) (v0 : 0 ≤ v) (v1 : v < p) (x0 : 0 ≤ x) (x1 : x < p) (c0 : 0 ≤ c) (c1 : c < p) : 0 ≤ v * x ∧ v * x ≤ 62500 ∧ 0 ≤ v * x + c ∧ v * x + c ≤ 62750 := by
  have := mulFits hp v0 v1 x0 x1
  omega

set_option maxHeartbeats 1000000 in
theorem fpEval_any (p : Int) (A : Option Addr) (n c : Nat) (zs : List Int) (x y : Int) (w : World) (p2 : 2 ≤ p) (p251 : p ≤ 251) (x0 : 0 ≤ x) (x1 : x < p) (h : Has w A n zs) (hn : n ≤ 16777216) (hz : ∀ k, k < zs.length → 0 ≤ zs.getD k 0 ∧ zs.getD k 0 < p) (hy : evM p x zs = y) :
    Calls Try.prog 69 #[.int .i64 p, .slice A n c, .int .i64 x] w fun e w' => e = .returned (.int .i64 y) ∧ w = w' := by
  have HZ := Lib.hid hz
  have HY := Lib.hid hy
  have HL := Lib.hid h.1
  clear hz hy
  go_enter Try.func69, Try.ntmps69
  go_wp2
  go_loop [7, 8] (fun v i => ∃ (k : Nat) (t : Int), k ≤ n ∧ i = .int .i64 ((k : Int) - 1) ∧ v = .int .i64 t ∧ 0 ≤ t ∧ t < p ∧ Hid (t = evM p x (zs.drop k))) (fun _ i => (intOf i + 1).toNat)
  case atStart => exact ⟨n, 0, Nat.le_refl _, by simp, rfl, by omega, by omega, by show _ = _; rw [← HL.out, evM_end]⟩
  case round =>
    obtain ⟨k, t, hk, rfl, rfl, t0, t1, HT⟩ := hrel
    cases k with
    | zero =>
      go_wp2
      go_ret
      refine ⟨?_, rfl⟩
      have e := HT.out
      rw [List.drop_zero, HY.out] at e
      subst e
      rfl
    | succ k =>
      have hlt : k < n := by omega
      obtain ⟨ad, z, rfl, hc, HE⟩ := h.elem hlt
      obtain ⟨z0, z1⟩ : 0 ≤ z ∧ z < p := by rw [HE.out]; exact HZ.out k (by rw [HL.out]; exact hlt)
      obtain ⟨q0, q1, q2, q3⟩ := hornerFits p251 t0 t1 x0 x1 z0 z1
      have tm := tmodPos (a := t * x + z) (b := p) q2
      obtain ⟨e0, e1⟩ := modIn (a := t * x + z) p2
      have hkk : ((k + 1 : Nat) : Int) - 1 = (k : Int) := by omega
      rw [hkk]
      go_wp2
      go_round
      case rel => exact ⟨k, _, by omega, by go_num, rfl, e0, e1, by show _ = _; rw [evM_drop (by rw [HL.out]; exact hlt), ← HE.out, ← HT.out]⟩
      case measure => simp [intOf] <;> omega

/-- What has come when k rounds are over. -/
def upto {α : Type} (f : Nat → α) (k : Nat) : List α := (List.range k).map f
theorem upto_succ {α : Type} (f : Nat → α) (k : Nat) : upto f (k + 1) = upto f k ++ [f k] := by simp [upto, List.range_succ]
theorem upto_length {α : Type} (f : Nat → α) (k : Nat) : (upto f k).length = k := by simp [upto]

/-- What a round keeps: whatever lay below n₀, and the cell that the iterator reads. -/
def Kb (n₀ Bs : Nat) (W W' : World) : Prop := Below n₀ W W' ∧ ∀ v, W.cell? ⟨Bs, 0, none⟩ = some v → W'.cell? ⟨Bs, 0, none⟩ = some v
theorem Kb.t {n₀ Bs : Nat} {A B C : World} (h : Kb n₀ Bs A B) (k : Kb n₀ Bs B C) : Kb n₀ Bs A C := ⟨h.1.trans k.1, fun v hv => k.2 v (h.2 v hv)⟩
theorem Kb.b {n₀ Bs : Nat} {w : World} (hn : n₀ ≤ w.heap.size) (W : World) (l : Nat) (o o' : Obj) (hl : w.heap.size ≤ l) (h : W.heap[l]? = some o) (hc : o.isCells = false) (hw : o.isWalk = false) : Kb n₀ Bs W (W.putObj l o') :=
  ⟨belowK_b hn W l o o' hl h hc hw, fun v hv => cell_kept hv (grownBy_putObj' W l o') (fun r e => by cases e; exact ⟨_, h, hc⟩)⟩

set_option maxRecDepth 100000 in
set_option maxHeartbeats 2000000 in
/-- slices.Backward's closure: for every body of a loop that keeps what lay below n₀ and the cell with the slice. -/
theorem backward1_in {α : Type} (encs : α → Array Value) (f : Nat → α) (F : Fence) (m : Nat) (h7 : F.fn 86) (hro : F.round = none) (hm : 1 ≤ m) (l Bs n₀ : Nat) (A : Option Addr) (n c : Nat) (zs : List Int) (hn : n ≤ 16777216) (hA : Old n₀ A n)
    (hf : ∀ k, k < n → encs (f k) = #[.int .i64 ((n : Int) - 1 - (k : Int)), .int .i64 (zs.getD (n - 1 - k) 0)]) (J Jx : List α → World → Prop)
    (hY : ∀ pre x W, J pre W → pre.length < n → YieldAt F (m - 1) Try.prog l (encs x) W fun e W' =>
      (e = .returned (.bool true) ∧ J (pre ++ [x]) W' ∧ Kb n₀ Bs W W') ∨ (e = .returned (.bool false) ∧ Jx (pre ++ [x]) W'))
    (W : World) (hBs : W.cell? ⟨Bs, 0, none⟩ = some (.slice A n c)) (hc : Has W A n zs) (h0 : J [] W) :
    CallsIn F m Try.prog 86 #[.func (.yield l) #[] #[], .pointer (some ⟨Bs, 0, none⟩)] W fun e W' => (∃ v, e = .returned v) ∧
      ((∃ ys, ys = upto f n ∧ J ys W') ∨ (∃ pre, (∃ k, k ≤ n ∧ pre = upto f k) ∧ Jx pre W')) := by
  refine callsIn_of_wp Try.func86 rfl h7 ?_ hro
  simp only [Try.ntmps86, List.size_toArray, List.length_cons, List.length_nil, Nat.reduceAdd, Nat.reduceSub, Array.replicate_succ, Array.replicate_zero, List.push_toArray, List.append_toArray, List.nil_append, List.cons_append]
  have HF := Lib.hid hf
  clear hf
  gi_wp2
  gi_loopw [3] (fun i wr => ∃ k : Nat, k ≤ n ∧ i = .int .i64 ((n : Int) - 1 - (k : Int)) ∧ J (upto f k) wr ∧ Below n₀ W wr ∧ wr.cell? ⟨Bs, 0, none⟩ = some (.slice A n c))
    (fun i _ => (intOf i + 1).toNat)
  case atStart => exact ⟨0, Nat.zero_le _, by simp, h0, Below.refl _ _, hBs⟩
  case round =>
    obtain ⟨k, hk, rfl, hJs, hnx, hBx⟩ := hrel
    by_cases hlt : k < n
    · obtain ⟨q, hq⟩ : ∃ q : Nat, n = k + 1 + q := ⟨n - k - 1, by omega⟩
      have hq1 : (n : Int) - 1 - (k : Int) = (q : Int) := by omega
      have hq2 : n - 1 - k = q := by omega
      have hqn : q < n := by omega
      have hcx : Has wr A n zs := hc.keep' hnx (hA (by omega))
      obtain ⟨ad, z, rfl, hcell, HZ⟩ := hcx.elem hqn
      obtain ⟨fn, tmps, assign, body, hy, hR⟩ := hY _ (f k) wr hJs (by rw [upto_length]; exact hlt)
      rw [HF.out k hlt, hq1, hq2, ← HZ.out] at hy
      rw [hq1]
      have HQ := Lib.hid hq
      clear hq hq1 hq2
      gi_wp2
      refine hR.mono ?_
      rintro e W3 (⟨rfl, hJ3, hk3⟩ | ⟨rfl, hJx3⟩)
      · have hB3 := hk3.2 _ hBx
        gi_wp2
        go_roundw
        case rel => exact ⟨k + 1, by omega, by have := HQ.out; go_num, by rw [upto_succ]; exact hJ3, hnx.trans hk3.1, hB3⟩
        case measure => simp [intOf]
      · gi_wp2
        refine bodyPost_ret (results_none rfl _ _ _) rfl ?_
        exact ⟨⟨_, rfl⟩, .inr ⟨_, ⟨k + 1, by omega, (upto_succ _ _).symm⟩, hJx3⟩⟩
    · obtain rfl : k = n := by omega
      gi_wp2
      go_end0
      exact ⟨⟨_, rfl⟩, .inl ⟨_, rfl, hJs⟩⟩

set_option maxHeartbeats 1000000 in
/-- slices.Backward: the slice is boxed, and the closure has the box. -/
theorem backward_in (F : Fence) (m : Nat) (h5 : F.fn 78) (hro : F.round = none) (A : Option Addr) (n c : Nat) (w : World) :
    CallsIn F m Try.prog 78 #[.slice A n c] w fun e w' => e = .returned (.func (.func 86) #[] #[.pointer (some ⟨w.heap.size, 0, none⟩)]) ∧ w' = w.alloc (.cells #[.slice A n c] 32) := by
  refine callsIn_of_wp Try.func78 rfl h5 ?_ hro
  simp only [Try.ntmps78, List.size_toArray, List.length_cons, List.length_nil, Nat.reduceAdd, Nat.reduceSub, Array.replicate_succ, Array.replicate_zero, List.push_toArray, List.append_toArray, List.nil_append, List.cons_append]
  gi_wp2
  go_ret
  exact ⟨rfl, rfl⟩

theorem backward_stops {α : Type} (encs : α → Array Value) (f : Nat → α) (F : Fence) (m : Nat) (h7 : F.fn 86) (hro : F.round = none) (hm : 1 ≤ m) (Bs n₀ : Nat) (A : Option Addr) (n c : Nat) (zs : List Int) (hn : n ≤ 16777216) (w : World) (hBs : Bs < w.heap.size)
    (hf : ∀ k, k < n → encs (f k) = #[.int .i64 ((n : Int) - 1 - (k : Int)), .int .i64 (zs.getD (n - 1 - k) 0)]) (hA : Old n₀ A n) (hc : w.cell? ⟨Bs, 0, none⟩ = some (.slice A n c)) (hI : Has w A n zs) :
    SeqStopsK F m Try.prog 86 #[.pointer (some ⟨Bs, 0, none⟩)] encs (Kb n₀ Bs) (fun ys => ys = upto f n) (fun pre => ∃ k, k ≤ n ∧ pre = upto f k) n w := fun l J Jx W hW _ _ hY h0 =>
  backward1_in encs f F m h7 hro hm l Bs n₀ A n c zs hn hA hf J Jx hY W ((hW.cell (p := ⟨Bs, 0, none⟩) hBs).trans hc) (hI.below hW) h0

/-- An index and an element of the field. -/
abbrev El (p : Int) := { q : Int × Int // 0 ≤ q.2 ∧ q.2 < p }
def hv (p x : Int) (pre : List (El p)) : Int := pre.foldl (fun v q => (v * x + q.1.2) % p) 0
theorem hv_snoc (p x : Int) (pre : List (El p)) (q : El p) : hv p x (pre ++ [q]) = (hv p x pre * x + q.1.2) % p := by simp [hv]
theorem hv_in {p x : Int} (pre : List (El p)) (h : 2 ≤ p) : 0 ≤ hv p x pre ∧ hv p x pre < p := by
  rcases List.eq_nil_or_concat pre with rfl | ⟨l, q, rfl⟩
  · exact ⟨Int.le_refl _, by show (0 : Int) < p; omega⟩
  · rw [List.concat_eq_append, hv_snoc]
    exact modIn h
theorem all_in {p : Int} {zs : List Int} (h2 : 2 ≤ p) (hz : ∀ k, k < zs.length → 0 ≤ zs.getD k 0 ∧ zs.getD k 0 < p) (k : Nat) : 0 ≤ zs.getD k 0 ∧ zs.getD k 0 < p := by
  by_cases hk : k < zs.length
  · exact hz k hk
  · rw [List.getD, List.getElem?_eq_none (by omega), Option.getD_none]
    omega
theorem hv_upto (p x : Int) (zs : List Int) (hz : ∀ k, 0 ≤ zs.getD k 0 ∧ zs.getD k 0 < p) (k : Nat) (hk : k ≤ zs.length) :
    hv p x (upto (fun j => (⟨((zs.length : Int) - 1 - (j : Int), zs.getD (zs.length - 1 - j) 0), hz _⟩ : El p)) k) = evM p x (zs.drop (zs.length - k)) := by
  induction k with
  | zero => simp [upto, hv, evM]
  | succ k ih =>
    rw [upto_succ, hv_snoc, ih (by omega), evM_drop (k := zs.length - (k + 1)) (by omega)]
    have e1 : zs.length - (k + 1) + 1 = zs.length - k := by omega
    have e2 : zs.length - 1 - k = zs.length - (k + 1) := by omega
    rw [e1]
    simp only [e2]

set_option maxRecDepth 100000 in
set_option maxHeartbeats 4000000 in
theorem valueAt_in (F : Fence) (m : Nat) (h3 : F.fn 55) (h5 : F.fn 78) (h7 : F.fn 86) (hro : F.round = none) (hm : 3 ≤ m)
    (p : Int) (A : Option Addr) (n c : Nat) (zs : List Int) (x y : Int) (w : World) (p2 : 2 ≤ p) (p251 : p ≤ 251) (x0 : 0 ≤ x) (x1 : x < p) (h : Has w A n zs) (hn : n ≤ 16777216) (hz : ∀ k, k < zs.length → 0 ≤ zs.getD k 0 ∧ zs.getD k 0 < p) (hy : evM p x zs = y) :
    CallsIn F m Try.prog 55 #[.int .i64 p, .slice A n c, .int .i64 x] w fun e w' => e = .returned (.int .i64 y) ∧ Below w.heap.size w w' := by
  have h1 : 1 ≤ m := by omega
  refine callsIn_of_wp_marks Try.func55 rfl h3 ?_ hro
  simp only [Try.ntmps55, List.size_toArray, List.length_cons, List.length_nil, Nat.reduceAdd, Nat.reduceSub, Array.replicate_succ, Array.replicate_zero, List.push_toArray, List.append_toArray, List.nil_append, List.cons_append]
  gi_wp2_with (gi_at_call 78; refine (backward_in F (m - 1) h5 hro _ _ _ _).mono ?_; rintro e w' ⟨rfl, rfl⟩)
  have bP := Boxed.new w 3 (.int .i64 p)
  have bX := Boxed.new (w.alloc (.cells #[.int .i64 p] 3)) 3 (.int .i64 x)
  have bV := Boxed.new ((w.alloc (.cells #[.int .i64 p] 3)).alloc (.cells #[.int .i64 x] 3)) 3 (.int .i64 0)
  have bS := Boxed.new (((w.alloc (.cells #[.int .i64 p] 3)).alloc (.cells #[.int .i64 x] 3)).alloc (.cells #[.int .i64 0] 3)) 32 (.slice A n c)
  simp only [World.size_alloc] at bX bV bS
  have hB0 : Below w.heap.size w ((((w.alloc (.cells #[.int .i64 p] 3)).alloc (.cells #[.int .i64 x] 3)).alloc (.cells #[.int .i64 0] 3)).alloc (.cells #[.slice A n c] 32)) :=
    ((((Below.refl _ w).alloc (Nat.le_refl _) _).alloc (by simp) _).alloc (by simp; omega) _).alloc (by simp; omega) _
  have hzz := all_in p2 hz
  have HY := Lib.hid hy
  have hl := h.1
  refine wpIn_rangeFunc_ownG hro h1 (gf := 86) (lb := #[.pointer (some ⟨w.heap.size + 1 + 1 + 1, 0, none⟩)]) rfl h7 (enters_of Try.func86 (by kernel_rfl) rfl)
    (backward_stops (fun q : El p => #[.int .i64 q.1.1, .int .i64 q.1.2]) (fun j => ⟨((zs.length : Int) - 1 - (j : Int), zs.getD (zs.length - 1 - j) 0), hzz _⟩) F (m - 1) h7 hro (by omega) (w.heap.size + 1 + 1 + 1) w.heap.size A n c zs hn _ (by simp) (fun k _ => by simp only [hl]) h.old bS.cell (h.below hB0))
    Kb.t (Kb.b (by simp; omega)) (Below.refl _ _) (fun _ => rfl)
    (fun pre W => (W.cell? ⟨w.heap.size, 0, none⟩ = some (.int .i64 p) ∧ W.cell? ⟨w.heap.size + 1, 0, none⟩ = some (.int .i64 x) ∧ W.cell? ⟨w.heap.size + 1 + 1, 0, none⟩ = some (.int .i64 (hv p x pre)) ∧ W.frozen? ⟨w.heap.size + 1 + 1, 0, none⟩ = false) ∧ Below w.heap.size w W)
    (fun _ _ _ => False)
    (OwnFrom.and (Own.from (fun s A B row hs hg hr => ⟨cell_kept hs.1 hg hr, cell_kept hs.2.1 hg hr, cell_kept hs.2.2.1 hg hr, (frozen_kept hs.2.2.1 hg hr).trans hs.2.2.2⟩) _) (ownFrom_below (Nat.le_refl _) (by simp; omega)))
    (fun _ _ _ _ _ hs _ _ => hs)
    ⟨⟨(((bP.alloc _).alloc _).alloc _).cell, ((bX.alloc _).alloc _).cell, (bV.alloc _).cell, (bV.alloc _).frozen⟩, hB0⟩
    (fun q => { tmps := #[.int .i64 p, .slice A n c, .int .i64 x, .pointer (some ⟨w.heap.size, 0, none⟩), undef, .pointer (some ⟨w.heap.size + 1, 0, none⟩), .int .i64 0, .pointer (some ⟨w.heap.size + 1 + 1, 0, none⟩), undef, .int .i64 q.1.2, .slice A n c, .func (.func 86) #[] #[.pointer (some ⟨w.heap.size + 1 + 1 + 1, 0, none⟩)], .int .i64 q.1.1, .int .i64 q.1.2, undef, undef, undef, undef, undef, undef, undef, undef], defers := [] }) ?assign ?body ?done ?stop
  case assign =>
    intro l q W K hK
    gi_wp2
    exact hK
  case body =>
    rintro l pre q W ⟨⟨hcp, hcx, hcv, hf⟩, hB⟩ _
    obtain ⟨⟨i, z⟩, z0, z1⟩ := q
    dsimp only at z0 z1
    obtain ⟨v0, v1⟩ := hv_in (x := x) pre p2
    obtain ⟨v, hv'⟩ : ∃ v, hv p x pre = v := ⟨_, rfl⟩
    rw [hv'] at hcv v0 v1
    have HV := Lib.hid hv'
    obtain ⟨q0, q1, q2, q3⟩ := hornerFits p251 v0 v1 x0 x1 z0 z1
    have tm := tmodPos (a := v * x + z) (b := p) q2
    clear hv' hl hzz
    gi_wp2
    refine ⟨(KeepsOthers.setCell _ _ _).from _, ⟨(Below.refl w.heap.size W).setCell (p := ⟨w.heap.size + 1 + 1, 0, none⟩) (by simp; omega) _, fun u hu => ?_⟩, ⟨?_, ?_, ?_, by rw [World.frozen?_setCell]; exact hf⟩, hB.setCell (p := ⟨w.heap.size + 1 + 1, 0, none⟩) (by simp; omega) _⟩
    · rw [World.cell?_setCell_other _ _ _ _ (by simp)]; exact hu
    · rw [World.cell?_setCell_other _ _ _ _ (by simp)]; exact hcp
    · rw [World.cell?_setCell_other _ _ _ _ (by simp)]; exact hcx
    · rw [hv_snoc, HV.out]; exact World.cell?_setCell_same' _ _ _ (by rw [hcv]; rfl)
  case done =>
    rintro D ys W hD rfl ⟨⟨_, _, hcv, _⟩, hB⟩ hK
    have e : hv p x (upto (fun j => (⟨((zs.length : Int) - 1 - (j : Int), zs.getD (zs.length - 1 - j) 0), hzz _⟩ : El p)) n) = y := by
      rw [hv_upto p x zs hzz n (by omega), hl, Nat.sub_self, List.drop_zero]
      exact HY.out
    rw [e] at hcv
    clear e hl hzz
    gi_wp2
    refine ⟨by simp, .inl ⟨_, _, rfl, run_takeDeferred hK, ?_⟩⟩
    exact ⟨_, results_tmp rfl _ _ _, rfl, hB.trans (belowK_b (w := w) (Nat.le_refl _) W D _ _ (by simp at hD; omega) hK rfl rfl)⟩
  case stop =>
    rintro D c pre W _ _ h _
    exact h.elim

theorem valueAt_any (p : Int) (A : Option Addr) (n c : Nat) (zs : List Int) (x y : Int) (w : World) (p2 : 2 ≤ p) (p251 : p ≤ 251) (x0 : 0 ≤ x) (x1 : x < p) (h : Has w A n zs) (hn : n ≤ 16777216) (hz : ∀ k, k < zs.length → 0 ≤ zs.getD k 0 ∧ zs.getD k 0 < p) (hy : evM p x zs = y) :
    Calls Try.prog 55 #[.int .i64 p, .slice A n c, .int .i64 x] w fun e w' => e = .returned (.int .i64 y) ∧ Below w.heap.size w w' :=
  callsIn_wide.1 (valueAt_in Fence.wide 3 trivial trivial trivial rfl (Nat.le_refl _) p A n c zs x y w p2 p251 x0 x1 h hn hz hy)

end Go.Proofs.Ytkmnhdnifpglnaa
