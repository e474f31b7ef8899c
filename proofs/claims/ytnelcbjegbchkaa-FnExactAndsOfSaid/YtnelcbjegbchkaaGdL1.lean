/- A circuit of the call's own whose outs may lie behind the head of their row: how it is marked. For at most 1048576 gates and outs. -/
import Derived.Test.YtnelcbjegbchkaaGdM2
namespace Go.Proofs.Ytnelcbjegbchkaa
open Go Go.RowKit
set_option maxRecDepth 100000

/-- A slice of a row of the call's own, from element k on. -/
def OwnO (w : World) (B : Nat) (A : Option Addr) (n c : Nat) (zs : List Int) : Prop :=
  Own w B A n c zs ∨ ∃ (g k cR : Nat) (rs : List Int), A = some ⟨g, k, none⟩ ∧ Own w B (some ⟨g, 0, none⟩) (k + n) cR rs ∧ zs = rs.drop k ∧ 0 < n ∧ n ≤ c
def OwnC2 (w : World) (B : Nat) (v : Value) (C : Ci) : Prop :=
  ∃ G n c O m d, v = .agg #[.int .i64 C.in0, .int .i64 C.in1, .slice G n c, .slice O m d] ∧ OwnG w B G n c C.gs ∧ OwnO w B O m d C.os

section
variable {w w' : World} {v : Value} {C : Ci} {B B' n c g : Nat} {A : Option Addr} {zs : List Int}
theorem OwnO.below (h : OwnO w B A n c zs) (hb : Below w.heap.size w w') : OwnO w' B A n c zs := by
  rcases h with h | ⟨g, k, cR, rs, e, h, e2, h3⟩
  · exact .inl (h.below hb)
  · exact .inr ⟨g, k, cR, rs, e, h.below hb, e2, h3⟩
theorem OwnO.mono (h : OwnO w B A n c zs) (hB : B' ≤ B) : OwnO w B' A n c zs := by
  rcases h with h | ⟨g, k, cR, rs, e, h, e2, h3⟩
  · exact .inl (h.mono hB)
  · exact .inr ⟨g, k, cR, rs, e, h.mono hB, e2, h3⟩
theorem OwnO.kept (h : OwnO w B A n c zs) (hg : w.grownBy w' (some g)) (hlt : g < B) : OwnO w' B A n c zs := by
  rcases h with h | ⟨g2, k, cR, rs, e, h, e2, h3⟩
  · exact .inl (h.kept hg (fun ad e => by have := (h.born ad e).1; simp; omega))
  · exact .inr ⟨g2, k, cR, rs, e, h.kept hg (fun ad e => by have := (h.born ad e).1; simp; omega), e2, h3⟩
theorem OwnO.has (h : OwnO w B A n c zs) : Has w A n zs := by
  rcases h with h | ⟨g, k, cR, rs, rfl, h, rfl, h3⟩
  · exact h.has
  · have := h.has.drop (k := k) (by omega)
    rwa [addNone', Nat.add_sub_cancel_left] at this
theorem OwnO.capLe (h : OwnO w B A n c zs) : n ≤ c := by
  rcases h with h | ⟨g, k, cR, rs, e, h, e2, h3, h4⟩
  · exact h.capLe
  · exact h4
theorem OwnO.nilOk (h : OwnO w B A n c zs) : NilOk A n c := by
  rcases h with h | ⟨g, k, cR, rs, rfl, h, e2, h3⟩
  · exact own_nilOk h
  · intro e; cases e
theorem OwnC2.below (h : OwnC2 w B v C) (hb : Below w.heap.size w w') : OwnC2 w' B v C := by
  obtain ⟨G, n, c, O, m, d, e, h1, h2⟩ := h
  exact ⟨G, n, c, O, m, d, e, h1.below hb, h2.below hb⟩
theorem OwnC2.mono (h : OwnC2 w B v C) (hB : B' ≤ B) : OwnC2 w B' v C := by
  obtain ⟨G, n, c, O, m, d, e, h1, h2⟩ := h
  exact ⟨G, n, c, O, m, d, e, h1.mono hB, h2.mono hB⟩
theorem OwnC2.has (h : OwnC2 w B v C) : HasC w v C := by
  obtain ⟨G, n, c, O, m, d, e, h1, h2⟩ := h
  exact ⟨G, n, c, O, m, d, e, h1.has, h2.has, h1.capLe, h2.capLe, h1.nilOk, h2.nilOk⟩
theorem OwnC2.kept (h : OwnC2 w B v C) (hg : w.grownBy w' (some g)) (hlt : g < B) : OwnC2 w' B v C := by
  obtain ⟨G, n, c, O, m, d, e, h1, h2⟩ := h
  exact ⟨G, n, c, O, m, d, e, h1.kept hg (fun ad e => by have := (h1.born ad e).1; simp; omega), h2.kept hg hlt⟩
theorem OwnC.two (h : OwnC w B v C) : OwnC2 w B v C := by
  obtain ⟨G, n, c, O, m, d, e, h1, h2⟩ := h
  exact ⟨G, n, c, O, m, d, e, h1, .inl h2⟩
theorem fourSet2 {w wn : World} {B S g : Nat} {v a b c d z0 z1 z2 z3 : Value} {C : Ci} {t : TypeId} (on : OwnC2 wn B v C) (zn : Blk wn g #[z0, z1, z2, z3] t) (hlt : g < B) (bn : Below S w wn) (hg : S ≤ g) :
    Blk ((((wn.setCell ⟨g, 0, none⟩ a).setCell ⟨g, 1, none⟩ b).setCell ⟨g, 2, none⟩ c).setCell ⟨g, 3, none⟩ d) g #[a, b, c, d] t ∧
    OwnC2 ((((wn.setCell ⟨g, 0, none⟩ a).setCell ⟨g, 1, none⟩ b).setCell ⟨g, 2, none⟩ c).setCell ⟨g, 3, none⟩ d) B v C ∧
    Below S w ((((wn.setCell ⟨g, 0, none⟩ a).setCell ⟨g, 1, none⟩ b).setCell ⟨g, 2, none⟩ c).setCell ⟨g, 3, none⟩ d) :=
  ⟨(((zn.set 0 a).set 1 b).set 2 c).set 3 d, on.kept (grown_setCell (grown_setCell (grown_setCell (grown_setCell (World.grownBy.refl _ _) _ _) _ _) _ _) _ _) hlt,
    (((bn.setCell hg _).setCell hg _).setCell hg _).setCell hg _⟩
end

section
variable {w w0 : World} {t : TypeId} {q B S N0 N1 n c m d k g : Nat} {R : Option Addr} {G : List Ga} {zs : List Int}
theorem Mk.done2 (hM : Mk w t q B N0 N1 R n c G) (hO : Own w B (some ⟨g, 0, none⟩) (k + m) d zs) (hm : 0 < m) (hS : S ≤ B) (hb : Below S w0 w) :
    Blk (w.setCell ⟨q, 3, none⟩ (.slice (some ⟨g, k, none⟩) m (d - k))) q #[.int .i64 (N0 : Int), .int .i64 (N1 : Int), .slice R n c, .slice (some ⟨g, k, none⟩) m (d - k)] t ∧
    OwnC2 (w.setCell ⟨q, 3, none⟩ (.slice (some ⟨g, k, none⟩) m (d - k))) B (.agg #[.int .i64 (N0 : Int), .int .i64 (N1 : Int), .slice R n c, .slice (some ⟨g, k, none⟩) m (d - k)]) ⟨(N0 : Int), (N1 : Int), G, zs.drop k⟩ ∧
    Below S w0 (w.setCell ⟨q, 3, none⟩ (.slice (some ⟨g, k, none⟩) m (d - k))) := by
  have gs : w.grownBy (w.setCell ⟨q, 3, none⟩ (.slice (some ⟨g, k, none⟩) m (d - k))) (some q) := grown_setCell (World.grownBy.refl _ _) _ _
  have hc := hO.capLe
  refine ⟨hM.blk.set 3 _, ⟨R, n, c, _, m, _, rfl, hM.own.kept gs (fun ad e => by simp; exact hM.apart ad e), .inr ⟨g, k, d, zs, rfl, hO.kept gs (fun ad e => ?_), rfl, hm, by omega⟩⟩, hb.setCell (Nat.le_trans hS hM.base) _⟩
  simp
  rintro rfl
  obtain ⟨xs, hx⟩ := hO.typedI ad e
  have := hM.blk
  unfold Blk at this
  rw [this] at hx
  injection hx with hx
  injection hx with _ hx
  exact hM.notInt hx
end

/-- A list whose elements from k on bear j marks. -/
def markL (m : Int) (k : Nat) (rs : List Int) (j i : Nat) : Int := if k ≤ i ∧ i < k + j then m + ((i - k : Nat) : Int) else rs.getD i 0
theorem markL_step (m : Int) (k : Nat) (rs : List Int) (j n : Nat) : (mapTo (markL m k rs j) n).set (k + j) (m + (j : Int)) = mapTo (markL m k rs (j + 1)) n := by
  rw [mapTo_set]
  refine mapTo_eq fun i _ => ?_
  unfold markL
  by_cases e : i = k + j
  · subst e
    rw [if_pos rfl, if_pos ⟨by omega, by omega⟩, Nat.add_sub_cancel_left]
  · rw [if_neg e]
    by_cases h : k ≤ i ∧ i < k + j
    · rw [if_pos h, if_pos ⟨h.1, by omega⟩]
    · rw [if_neg h, if_neg (fun h2 => h ⟨h2.1, by omega⟩)]
theorem markL_drop (m : Int) (k n : Nat) (rs : List Int) : (mapTo (markL m k rs n) (k + n)).drop k = marks m n := by
  apply List.ext_getElem
  · simp [mapTo, marks]
  · intro i h1 h2
    simp [mapTo, marks] at h1 h2 ⊢
    rw [markL, if_pos ⟨by omega, by omega⟩, Nat.add_sub_cancel_left]

set_option maxHeartbeats 1000000 in
theorem markIntO_any (g k n c cR B : Nat) (m : Int) (rs : List Int) (w : World) (h : Own w B (some ⟨g, 0, none⟩) (k + n) cR rs) (hn : n ≤ 16777216) (hm0 : 0 ≤ m) (hm1 : m ≤ 16777216) :
    Calls Try.prog 24 #[.slice (some ⟨g, k, none⟩) n c, .int .i64 m] w fun e w' => e = .returned (.int .i64 (m + (n : Int))) ∧ Own w' B (some ⟨g, 0, none⟩) (k + n) cR (mapTo (markL m k rs n) (k + n)) ∧ w.grownBy w' (some g) := by
  have h0 : Own w B (some ⟨g, 0, none⟩) (k + n) cR (mapTo (markL m k rs 0) (k + n)) := by
    have e : rs = mapTo (markL m k rs 0) (k + n) := by
      rw [← h.1]
      conv => lhs; rw [list_eq_mapTo rs]
      refine mapTo_eq fun i _ => ?_
      rw [markL, if_neg (by omega)]
    rw [← e]
    exact h
  go_enter Try.func24, Try.ntmps24
  go_wp2
  go_loopw [1, 5] (fun q i wr => ∃ j : Nat, j ≤ n ∧ i = .int .i64 j ∧ q = .int .i64 (m + (j : Int)) ∧ Own wr B (some ⟨g, 0, none⟩) (k + n) cR (mapTo (markL m k rs j) (k + n)) ∧ w.grownBy wr (some g)) (fun _ i _ => n - (intOf i).toNat)
  case atStart => exact ⟨0, Nat.zero_le _, rfl, by simp, h0, World.grownBy.refl _ _⟩
  case round =>
    obtain ⟨j, hj, rfl, rfl, hmk, hgk⟩ := hrel
    by_cases hlt : j < n
    · have hu := hmk.cellR (k := k + j) (by omega)
      have hfr := hmk.freeR (k + j)
      have hs := hmk.putR (k + j) (m + (j : Int))
      rw [markL_step] at hs
      go_wp2
      go_roundw
      case rel => exact ⟨j + 1, by omega, by go_num, by go_num, hs, grown_setCell hgk _ _⟩
      case measure => simp [intOf]; omega
    · obtain rfl : j = n := by omega
      go_wp2
      go_ret
      exact ⟨rfl, hmk, hgk⟩

set_option maxHeartbeats 2000000 in
/-- Every circuit of the call's own bears marks. -/
theorem markCircuit2_any (v : Value) (C C0 : Ci) (B : Nat) (k : Int) (w wx : World) (h : OwnC2 w B v C) (h0 : OwnC2 wx B v C0) (hx : wx.heap.size ≤ w.heap.size) (hn : C.gs.length ≤ 1048576) (hm : C.os.length ≤ 1048576) (hk0 : 0 ≤ k) (hk1 : k ≤ 8388608) :
    Calls Try.prog 23 #[v, .int .i64 k] w fun e w' => e = .returned (.int .i64 (k + sizeC C)) ∧ OwnC2 w' B v (markC C k) ∧ Span B wx.heap.size w w' := by
  obtain ⟨G, n, c, O, m, d, rfl, hG, hO⟩ := h
  obtain ⟨G0, n0, c0, O0, m0, d0, e0, hG0, hO0⟩ := h0
  have eG : G = G0 := by injection e0 with e; injection e with e; simp at e; exact e.2.2.1.1
  have eO : O = O0 := by injection e0 with e; injection e with e; simp at e; exact e.2.2.2.1
  have em0 : m = m0 := by injection e0 with e; injection e with e; simp at e; exact e.2.2.2.2.1
  subst eG
  subst eO
  subst em0
  have gb : ∀ ad, G = some ad → B ≤ ad.block ∧ ad.block < wx.heap.size := hG0.born
  have ob : ∀ ad, O = some ad → B ≤ ad.block ∧ (0 < m → ad.block < wx.heap.size) := by
    rcases hO0 with h1 | ⟨g, k, cR, rs, rfl, h1, _, _⟩
    · exact fun ad e => ⟨(h1.born ad e).1, fun _ => (h1.born ad e).2⟩
    · intro ad e
      injection e with e
      subst e
      exact ⟨(h1.born ⟨g, 0, none⟩ rfl).1, fun _ => (h1.born ⟨g, 0, none⟩ rfl).2⟩
  have hol := hO.has.1
  have hgl := hG.1
  obtain ⟨x, y, gs, os⟩ := C
  show Calls Try.prog 23 #[.agg #[.int .i64 x, .int .i64 y, .slice G n c, .slice O m d], .int .i64 k] w _
  simp only at hgl hol hn hm hG hO
  have es : sizeC ⟨x, y, gs, os⟩ = 3 * (n : Int) + (m : Int) := by simp [sizeC, hgl, hol]
  have em : markC ⟨x, y, gs, os⟩ k = ⟨x, y, gmarks k n, marks (k + 3 * (n : Int)) m⟩ := by simp [markC, hgl, hol]
  rcases hO with hO | ⟨g, j, cR, rs, rfl, hO, rfl, hm0, hmd⟩
  · have hone : ∀ ad, O = some ad → B ≤ ad.block ∧ ad.block < wx.heap.size := by
      rcases hO0 with h1 | ⟨g, k, cR, rs, rfl, h1, _, _⟩
      · exact h1.born
      · intro ad e
        injection e with e
        subst e
        exact h1.born ⟨g, 0, none⟩ rfl
    rw [es, em]
    have apart := ownApart hG hO
    have B1 := belowNew w (.cells #[.int .i64 x, .int .i64 y, .slice G n c, .slice O m d] 34)
    have p0 := Blk.new w #[.int .i64 x, .int .i64 y, .slice G n c, .slice O m d] 34
    have S0 : Span B wx.heap.size w (w.alloc (.cells #[.int .i64 x, .int .i64 y, .slice G n c, .slice O m d] 34)) := ⟨B1.os, B1.tape, B1.output, B1.size, fun i hi _ => B1.block i hi⟩
    have hG1 := hG.below B1
    have hO1 := hO.below B1
    have HA := Lib.hid apart
    have GB := Lib.hid gb
    have OB := Lib.hid hone
    clear apart gb ob hone es em hG0 hO0 e0
    go_enter Try.func23, Try.ntmps23
    go_wp2_with fail
    generalize w.alloc (.cells #[.int .i64 x, .int .i64 y, .slice G n c, .slice O m d] 34) = W1 at *
    refine (markGateS_any G B n c k gs W1 hG1 (by omega) hk0 (by omega)).mono ?_
    rintro e w1 ⟨rfl, oG, g1⟩
    have q0 := p0.grown g1 (fun e => by
      cases hG' : G with
      | none => rw [hG'] at e; simp [blockOf] at e
      | some a => rw [hG'] at e; simp [blockOf] at e; have := (GB.out a hG').2; omega)
    have hO2 := hO1.kept g1 (fun ad e1 e2 => by
      cases hG' : G with
      | none => rw [hG'] at e2; simp [blockOf] at e2
      | some a => rw [hG'] at e2; simp [blockOf] at e2; exact HA.out a ad hG' e1 e2.symm)
    have S1 := S0.grown g1 (fun b e => by
      cases hG' : G with
      | none => rw [hG'] at e; simp [blockOf] at e
      | some a => rw [hG'] at e; simp [blockOf] at e; have := GB.out a hG'; omega)
    have c3 := q0.cell (i := 3) rfl
    clear p0 hG hG1 hO1 hO S0 B1 q0
    go_wp2_with fail
    refine (markIntS_any O B m d (k + 3 * (n : Int)) os w1 hO2 (by omega) (by omega) (by omega)).mono ?_
    rintro e w2 ⟨rfl, oO, g2⟩
    have oG2 := oG.kept g2 (fun ad e1 e2 => by
      cases hO' : O with
      | none => rw [hO'] at e2; simp [blockOf] at e2
      | some a => rw [hO'] at e2; simp [blockOf] at e2; exact HA.out ad a e1 hO' e2)
    have S2 := S1.grown g2 (fun b e => by
      cases hO' : O with
      | none => rw [hO'] at e; simp [blockOf] at e
      | some a => rw [hO'] at e; simp [blockOf] at e; have := OB.out a hO'; omega)
    go_wp2_with fail
    go_ret
    exact ⟨retI (by omega), ⟨G, n, c, O, m, d, rfl, oG2, .inl oO⟩, S2⟩
  · rw [es, em]
    have apart : ∀ ad, G = some ad → ad.block ≠ g := fun ad e => ownApart hG hO ad ⟨g, 0, none⟩ e rfl
    have gb2 : B ≤ g ∧ g < wx.heap.size := ⟨(ob ⟨g, j, none⟩ rfl).1, (ob ⟨g, j, none⟩ rfl).2 hm0⟩
    have B1 := belowNew w (.cells #[.int .i64 x, .int .i64 y, .slice G n c, .slice (some ⟨g, j, none⟩) m d] 34)
    have p0 := Blk.new w #[.int .i64 x, .int .i64 y, .slice G n c, .slice (some ⟨g, j, none⟩) m d] 34
    have S0 : Span B wx.heap.size w (w.alloc (.cells #[.int .i64 x, .int .i64 y, .slice G n c, .slice (some ⟨g, j, none⟩) m d] 34)) := ⟨B1.os, B1.tape, B1.output, B1.size, fun i hi _ => B1.block i hi⟩
    have hG1 := hG.below B1
    have hO1 := hO.below B1
    have HA := Lib.hid apart
    have GB := Lib.hid gb
    have hdl : m ≤ 1048576 := by rw [← hol]; exact hm
    clear apart gb ob es em hG0 hO0 e0 hol hm
    go_enter Try.func23, Try.ntmps23
    go_wp2_with fail
    generalize w.alloc (.cells #[.int .i64 x, .int .i64 y, .slice G n c, .slice (some ⟨g, j, none⟩) m d] 34) = W1 at *
    refine (markGateS_any G B n c k gs W1 hG1 (by omega) hk0 (by omega)).mono ?_
    rintro e w1 ⟨rfl, oG, g1⟩
    have q0 := p0.grown g1 (fun e => by
      cases hG' : G with
      | none => rw [hG'] at e; simp [blockOf] at e
      | some a => rw [hG'] at e; simp [blockOf] at e; have := (GB.out a hG').2; omega)
    have hO2 := hO1.kept g1 (fun ad e1 e2 => by
      injection e1 with e1
      subst e1
      cases hG' : G with
      | none => rw [hG'] at e2; simp [blockOf] at e2
      | some a => rw [hG'] at e2; simp [blockOf] at e2; exact HA.out a hG' e2.symm)
    have S1 := S0.grown g1 (fun b e => by
      cases hG' : G with
      | none => rw [hG'] at e; simp [blockOf] at e
      | some a => rw [hG'] at e; simp [blockOf] at e; have := GB.out a hG'; omega)
    have c3 := q0.cell (i := 3) rfl
    clear p0 hG hG1 hO1 hO S0 B1 q0
    go_wp2_with fail
    refine (markIntO_any g j m d cR B (k + 3 * (n : Int)) rs w1 hO2 (by omega) (by omega) (by omega)).mono ?_
    rintro e w2 ⟨rfl, oO, g2⟩
    have oG2 := oG.kept g2 (fun ad e1 e2 => by simp at e2; exact HA.out ad e1 e2)
    have S2 := S1.grown g2 (fun b e => by injection e with e; omega)
    go_wp2_with fail
    go_ret
    exact ⟨retI (by omega), ⟨G, n, c, _, m, d, rfl, oG2, .inr ⟨g, j, cR, _, rfl, oO, (markL_drop _ _ _ _).symm, hm0, hmd⟩⟩, S2⟩

end Go.Proofs.Ytnelcbjegbchkaa
