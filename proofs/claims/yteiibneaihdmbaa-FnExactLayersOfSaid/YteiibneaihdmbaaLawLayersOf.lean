/- The exact law of LayersOf: for every input that the row allows, the program and the model answer the same, the arguments are left as they were, and the answer owns its memory. -/
import Derived.Test.YteiibneaihdmbaaHelp
import Derived.Test.YteiibneaihdmbaaClose
import Derived.Test.YteiibneaihdmbaaSo1
import Derived.Test.YteiibneaihdmbaaSoG7
import Derived.Test.YteiibneaihdmbaaSoI7
namespace Go.Proofs.Yteiibneaihdmbaa.lawLayersOf
open Go.ChangeShapes Go.WideShapes Go.ChangeAt Go.RowKit
set_option maxRecDepth 100000

theorem specL (x : Int) (A : Option Addr) (n c : Nat) (l : List St) (N : Nat) (M : Nat → List Int) (rb : Bool) (w : World) (hx : I64 x) (h : HasT w A n l) (hn : n ≤ 1048576) (hnil : NilOk A n c) (hM : m_LayersOf x l = ((N, M), rb)) :
    Calls Try.prog 40 #[.int .i64 x, .slice A n c] w fun e w' => ∃ R c', e = .returned (.tuple #[.slice R N c', .bool rb]) ∧ HasM w' R N M ∧ N ≤ 60 ∧ (∀ k, k < N → (M k).length ≤ 60) ∧ Below w.heap.size w w' := spec_LayersOf x A n c l (N, M) rb w hx h hn hnil hM
theorem implL (x : Int) (A : Option Addr) (n c : Nat) (l : List St) (N : Nat) (M : Nat → List Int) (rb : Bool) (w : World) (hx : I64 x) (h : HasT w A n l) (hn : n ≤ 1048576) (hnil : NilOk A n c) (hM : m_LayersOf x l = ((N, M), rb)) :
    Calls Try.prog 41 #[.int .i64 x, .slice A n c] w fun e w' => ∃ R c' rf, e = .returned (.tuple #[.slice R N c', .bool rb]) ∧ LayR w' w.heap.size R N c' rf M ∧ Below w.heap.size w w' :=
  (impl_LayersOf x A n c l (N, M) rb w hx h hn hnil hM).mono fun _ _ ⟨R, c', rf, h1, h2, _, _, h3⟩ => ⟨R, c', rf, h1, h2, h3⟩
theorem markT (A : Option Addr) (n c : Nat) (rs : Nat → RwS) (M : Nat → List Int) (B : Nat) (w wx : World) (tt : Nat) (h : LayR w B A n c rs M) (hx : LayR wx B A n c rs M) (hwx : wx.heap.size ≤ w.heap.size) (hn : n ≤ 1000) (hl : ∀ k, k < n → (M k).length ≤ 1000) (ht : totL M n = tt) :
    Calls Try.prog 43 #[.slice A n c, .int .i64 1] w fun e w' => e = .returned (.int .i64 (1 + (tt : Int))) ∧ LayR w' B A n c rs (markM M 1) ∧ Span B wx.heap.size w w' := by
  rw [← ht]; exact markLay_any A n c rs M B 1 w wx h hx hwx hn hl (by omega) (by omega)
theorem heldT (A : Option Addr) (n c : Nat) (M : Nat → List Int) (w : World) (tt : Nat) (h : HasM w A n (markM M 1)) (hn : n ≤ 1000) (hl : ∀ k, k < n → (M k).length ≤ 1000) (ht : totL M n = tt) :
    Calls Try.prog 44 #[.slice A n c, .int .i64 1] w fun e w' => e = .returned (.int .i64 (1 + (tt : Int))) ∧ Below w.heap.size w w' := by
  rw [← ht]; exact heldLay_any A n c M 1 w h hn hl (by omega) (by omega)
theorem _root_.Go.Proofs.Yteiibneaihdmbaa.LayR.span {w w' : World} {A : Option Addr} {B S T n c : Nat} {rs : Nat → RwS} {M : Nat → List Int} (h : LayR w B A n c rs M) (hs : Span S T w w') (hT : T ≤ B) : LayR w' B A n c rs M := by
  refine ⟨?_, fun k hk => (h.own k hk).span hs hT, h.apart⟩
  rcases h.row with ⟨h1, h2⟩
  refine ⟨h1, ?_⟩
  rcases h2 with h2 | ⟨g, cap, cur, e, hb, hg, h5, h6, h7, h8⟩
  · exact .inl h2
  · refine .inr ⟨g, cap, cur, e, hb, ?_, h5, h6, h7, h8⟩
    rw [hs.block g (by have := (Array.getElem?_eq_some_iff.1 hg).1; exact this) (.inr (by omega))]
    exact hg

set_option maxHeartbeats 1000000 in
theorem walk (x0 : Int) (A1 : Option Addr) (n1 c1 : Nat) (l1 : List St) (W : World) (hx0 : I64 x0) (a1_0 : HasT W A1 n1 l1) (mx1 : n1 ≤ maxLen) :
    Calls Try.prog 9 #[.int .i64 x0, .slice A1 n1 c1] W fun e W' => e = .returned (.bool true) ∧ Below W.heap.size W W' := by
  obtain ⟨r, hm⟩ : ∃ r, m_LayersOf x0 l1 = r := ⟨_, rfl⟩
  obtain ⟨⟨N0, M0⟩, rb1⟩ := r
  have HM := Lib.hid hm
  clear hm
  have B0 : Below W.heap.size W W := Below.refl _ _
  have s0 : W.heap.size ≤ W.heap.size := Nat.le_refl _
  have old_a1 := a1_0.old
  go_enter Try.func9, Try.ntmps9
  go_wp2_with fail
  refine (szStepS_any A1 n1 c1 1048576 W (by omega) (by omega) (by unfold maxLen at mx1; omega)).mono ?_
  rintro e w' ⟨rfl, rfl⟩
  by_cases hn1 : 1048576 < n1
  · rw [if_pos (by omega)]
    go_wp2_with fail
    go_ret
    exact ⟨rfl, B0⟩
  rw [if_neg (by omega)]
  go_wp2_with fail
  refine (toStepS_any A1 n1 c1 l1 _ a1_0 (by omega)).mono ?_
  rintro e w1 ⟨X_u1, rfl, u1_1, b1⟩
  have s1 := b1.size
  have B1 := B0.trans (b1.mono (by omega))
  have a1_1 := a1_0.below b1
  clear b1 B0 a1_0
  have u1_b := u1_1
  go_wp2_with fail
  refine (specL x0 X_u1 n1 n1 l1 N0 M0 rb1 _ hx0 u1_1.has (by omega) u1_1.nilOk HM.out).mono ?_
  rintro e w2 ⟨R_sp0, c_sp0, rfl, sp0_2, hN60, hL60, b2⟩
  have s2 := b2.size
  have B2 := B1.trans (b2.mono (by omega))
  have a1_2 := a1_1.below b2
  have u1_2 := u1_1.below b2
  clear b2 B1 a1_1 u1_1
  have D_2 : Below w2.heap.size w2 w2 := Below.refl _ _
  have HSP := Lib.hid sp0_2
  have HL6 := Lib.hid hL60
  have hL : Hid (∀ k, k < N0 → (M0 k).length ≤ 16777216) := fun k hk => by have := hL60 k hk; omega
  have hL1 : Hid (∀ k, k < N0 → (M0 k).length ≤ 1000) := fun k hk => by have := hL60 k hk; omega
  have hLm : Hid (∀ k, k < N0 → (markM M0 1 k).length ≤ 16777216) := fun k hk => by have := hL60 k hk; rw [markM, marks_length]; omega
  obtain ⟨tt, htt⟩ : ∃ tt, totL M0 N0 = tt := ⟨_, rfl⟩
  have htt1 : tt ≤ 60000 := by rw [← htt]; have := totL_le hL1.out N0 (Nat.le_refl _); omega
  have HTT := Lib.hid htt
  clear sp0_2 hL60 htt
  go_wp2_with fail
  refine (toStepS_any A1 n1 c1 l1 _ a1_2 (by omega)).mono ?_
  rintro e w3 ⟨X_v1, rfl, v1_3, b3⟩
  have s3 := b3.size
  have B3 := B2.trans (b3.mono (by omega))
  have a1_3 := a1_2.below b3
  have D_3 := D_2.trans (b3.mono (by omega))
  clear b3 B2 a1_2 D_2
  have v1_b := v1_3
  go_wp2_with fail
  refine (implL x0 X_v1 n1 n1 l1 N0 M0 rb1 _ hx0 v1_3.has (by omega) v1_3.nilOk HM.out).mono ?_
  rintro e w4 ⟨R_im0, c_im0, rf_im0, rfl, im0_4, b4⟩
  have s4 := b4.size
  have B4 := B3.trans (b4.mono (by omega))
  have a1_4 := a1_3.below b4
  have D_4 := D_3.trans (b4.mono (by omega))
  have v1_4 := v1_3.below b4
  clear b4 B3 a1_3 D_3 v1_3
  have im0_b := im0_4
  go_wp2_with fail
  refine (eqIntSS_same _ _ N0 _ _ M0 _ (im0_4.hasM hL.out) (HSP.out.below D_4) (by omega)).mono ?_
  rintro e w5 ⟨rfl, b5⟩
  have s5 := b5.size
  have B5 := B4.trans (b5.mono (by omega))
  have a1_5 := a1_4.below b5
  have D_5 := D_4.trans (b5.mono (by omega))
  have v1_5 := v1_4.below b5
  have im0_5 := im0_4.below b5
  clear b5 B4 a1_4 D_4 v1_4 im0_4
  go_wp2_with fail
  refine (toStepS_any A1 n1 c1 l1 _ a1_5 (by omega)).mono ?_
  rintro e w6 ⟨X_y1, rfl, y1_6, b6⟩
  have s6 := b6.size
  have B6 := B5.trans (b6.mono (by omega))
  have a1_6 := a1_5.below b6
  have D_6 := D_5.trans (b6.mono (by omega))
  have v1_6 := v1_5.below b6
  have im0_6 := im0_5.below b6
  clear b6 B5 a1_5 D_5 v1_5 im0_5
  have y1_b := y1_6
  go_wp2_with fail
  refine (eqStepS_same _ _ n1 n1 _ _ _ _ v1_6.has y1_6.has (by omega)).mono ?_
  rintro e w7 ⟨rfl, b7⟩
  have s7 := b7.size
  have B7 := B6.trans (b7.mono (by omega))
  have a1_7 := a1_6.below b7
  have D_7 := D_6.trans (b7.mono (by omega))
  have v1_7 := v1_6.below b7
  have im0_7 := im0_6.below b7
  have y1_7 := y1_6.below b7
  clear b7 B6 a1_6 D_6 v1_6 im0_6 y1_6
  go_wp2_with fail
  refine (markStepS_any _ _ _ _ _ _ _ v1_7 (by omega) (by omega) (by omega)).mono ?_
  rintro e w8 ⟨rfl, v1_8, q8⟩
  have g8 := spanOfT q8 v1_b
  have s8 := g8.size
  have B8 := belowSpan B7 g8 (by omega) (by omega)
  have a1_8 := a1_7.span g8 (fun h0 ad e => Nat.lt_of_lt_of_le (old_a1 h0 ad e) (by omega))
  have D_8 := belowSpan D_7 g8 (by omega) (by omega)
  have im0_8 := im0_7.span g8 (by omega)
  clear g8 q8 B7 a1_7 D_7 v1_7 im0_7
  go_wp2_with fail
  refine (eqIntSS_same _ _ N0 _ _ M0 _ (im0_8.hasM hL.out) (HSP.out.below D_8) (by omega)).mono ?_
  rintro e w9 ⟨rfl, b9⟩
  have s9 := b9.size
  have B9 := B8.trans (b9.mono (by omega))
  have a1_9 := a1_8.below b9
  have D_9 := D_8.trans (b9.mono (by omega))
  have im0_9 := im0_8.below b9
  clear b9 B8 a1_8 D_8 im0_8
  go_wp2_with fail
  refine (markT _ N0 _ _ M0 _ w9 w4 tt im0_9 im0_b (by omega) (by omega) hL1.out HTT.out).mono ?_
  rintro e w10 ⟨rfl, im0_10, g10⟩
  have s10 := g10.size
  have B10 := belowSpan B9 g10 (by omega) (by omega)
  have a1_10 := a1_9.span g10 (fun h0 ad e => Nat.lt_of_lt_of_le (old_a1 h0 ad e) (by omega))
  have D_10 := belowSpan D_9 g10 (by omega) (by omega)
  clear g10 B9 a1_9 D_9 im0_9
  go_wp2_with fail
  refine (heldT _ N0 _ M0 _ tt (im0_10.hasM hLm.out) (by omega) hL1.out HTT.out).mono ?_
  rintro e w11 ⟨rfl, b11⟩
  have s11 := b11.size
  have B11 := B10.trans (b11.mono (by omega))
  have a1_11 := a1_10.below b11
  have D_11 := D_10.trans (b11.mono (by omega))
  have im0_11 := im0_10.below b11
  clear b11 B10 a1_10 D_10 im0_10
  go_wp2_with fail
  refine (toStepS_any A1 n1 c1 l1 _ a1_11 (by omega)).mono ?_
  rintro e w12 ⟨X_t1, rfl, t1_12, b12⟩
  have s12 := b12.size
  have B12 := B11.trans (b12.mono (by omega))
  have a1_12 := a1_11.below b12
  have D_12 := D_11.trans (b12.mono (by omega))
  have im0_12 := im0_11.below b12
  clear b12 B11 a1_11 D_11 im0_11
  have t1_b := t1_12
  go_wp2_with fail
  refine (implL x0 X_t1 n1 n1 l1 N0 M0 rb1 _ hx0 t1_12.has (by omega) t1_12.nilOk HM.out).mono ?_
  rintro e w13 ⟨R_ag0, c_ag0, rf_ag0, rfl, ag0_13, b13⟩
  have s13 := b13.size
  have B13 := B12.trans (b13.mono (by omega))
  have a1_13 := a1_12.below b13
  have D_13 := D_12.trans (b13.mono (by omega))
  have im0_13 := im0_12.below b13
  have t1_13 := t1_12.below b13
  clear b13 B12 a1_12 D_12 im0_12 t1_12
  have ag0_b := ag0_13
  go_wp2_with fail
  refine (eqIntSS_same _ _ N0 _ _ M0 _ (ag0_13.hasM hL.out) (HSP.out.below D_13) (by omega)).mono ?_
  rintro e w14 ⟨rfl, b14⟩
  have s14 := b14.size
  have B14 := B13.trans (b14.mono (by omega))
  have a1_14 := a1_13.below b14
  have D_14 := D_13.trans (b14.mono (by omega))
  have im0_14 := im0_13.below b14
  have ag0_14 := ag0_13.below b14
  clear b14 B13 a1_13 D_13 im0_13 ag0_13
  go_wp2_with fail
  refine (heldT _ N0 _ M0 _ tt (im0_14.hasM hLm.out) (by omega) hL1.out HTT.out).mono ?_
  rintro e w15 ⟨rfl, b15⟩
  have s15 := b15.size
  have B15 := B14.trans (b15.mono (by omega))
  have a1_15 := a1_14.below b15
  have D_15 := D_14.trans (b15.mono (by omega))
  have im0_15 := im0_14.below b15
  have ag0_15 := ag0_14.below b15
  clear b15 B14 a1_14 D_14 im0_14 ag0_14
  go_wp2_with fail
  go_ret
  exact ⟨rfl, B15⟩

set_option maxRecDepth 100000 in
theorem lifted (os : Os) (started : os.Started) (H : Type) (enc : TypeId × Value → H) :
    ReturnsInHanded {} Try.checked os 9 .any (Rows.fnExactLayersOfSpec.pre6 enc Try.prog Try.f9 Rows.fnExactLayersOfRow.domain false) (Rows.fnExactLayersOfSpec.post enc Try.prog Try.f9 false true false false) := by
  refine returnsInHanded_of_change (C := Try.checked) own started (by kernel_rfl) Try.func9
    (ChangeSpec.witness6 (enc := enc) (C := Try.checked) false ⟨#[], #[.int .i64 0, .slice none 0 0], []⟩ 8 (by kernel_rfl) (by kernel_rfl) (by kernel_rfl) (by kernel_rfl)) ?_
  intro W base args ds gs before hval0 hW hcnd _
  have hval : ∀ (j : Nat) t v, Try.f9.params[j]? = some t → args[j]? = some v → Value.okWide Try.prog W .any base t v := hval0
  have hW' := hW
  obtain ⟨p, q, hA0, hV, rfl, hfz, hnd⟩ := hW
  have hA : DataW.TrodAll enc Try.prog W 0 (fun _ => true) true Try.f9.params.toList args.toList ds p := hA0
  rw [Try.params9] at hA hval
  obtain ⟨v0, vs0, d0, ds0, p0, q0, hargs, rfl, rfl, h0, r0⟩ := trodAll_cons hA
  obtain ⟨v1, vs1, d1, ds1, p1, q1, hargs1, rfl, rfl, h1, r1⟩ := trodAll_cons r0
  obtain ⟨rfl, rfl, rfl⟩ := trodAll_nil r1
  obtain rfl : args = #[v0, v1] := by cases args; simp_all
  obtain ⟨rfl, rfl⟩ := trodVars_none hV
  clear hA0 hval0
  obtain ⟨x0, rfl, rfl, rfl, wx0⟩ := open_int Try.underlying3 (hval 0 _ v0 rfl rfl) h0
  have hlt1 : ∀ x ∈ p1, x.block < W.heap.size := fun x hx => by simpa using hW'.lt x (by simp [hx])
  obtain ⟨a1, n1, c1, l1, rfl, g1, mx1, _, _, _⟩ := openSteps (hval 1 _ v1 rfl rfl) h1
  simp only [List.append_nil] at hW'
  refine (walk x0 a1 n1 c1 l1 W (I64.of wx0) g1 mx1).mono fun e W' ⟨he, hb⟩ => ?_
  subst he
  exact ⟨_, rfl, lawPost (pa := [] ++ (p1)) (pv := []) hW' (fun _ _ _ => trodAll_mk1 (shut_bool Try.underlying4 _)) (trodAll_mk2 (shut_int Try.underlying3 wx0) (Below.trod laidOut (by kernel_rfl) (of_decide_eq_true (by kernel_rfl)) h1 hb hlt1)) rfl (by simp) hb⟩

theorem proved : Rows.FnExactLayersOfSaid :=
  OpenClaim.holds_of_wide 9 Try.f9 rfl rfl rfl rfl rfl rfl rfl ⟨rfl, rfl, rfl, rfl, rfl⟩ rfl rfl rfl rfl rfl (by kernel_rfl) Try.func9 (by kernel_rfl)
    (of_decide_eq_true (by kernel_rfl)) (by unfold Func.isWrapper; first | (rw [if_pos (by decide +kernel)]; kernel_rfl) | (rw [if_neg (by decide +kernel)]; exact ⟨rfl, rfl⟩))
    (fun os started H enc _ => lifted os started H enc)

end Go.Proofs.Yteiibneaihdmbaa.lawLayersOf
