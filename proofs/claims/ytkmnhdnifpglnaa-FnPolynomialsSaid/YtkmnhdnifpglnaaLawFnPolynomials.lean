/- The law of polynomials: for every two lists of bytes, for drawn points the polynomial through them has their values, and solutions solve their equations. -/
import Derived.Test.YtkmnhdnifpglnaaCur6
import Derived.Test.YtkmnhdnifpglnaaPolyLaw2
import Derived.Test.YtkmnhdnifpglnaaMat8
import Derived.Test.YtkmnhdnifpglnaaGenHelp
import Derived.Deep.DeepCutAuto
namespace Go.Proofs.Ytkmnhdnifpglnaa.lawPolynomials
open Go.ChangeShapes Go.WideShapes Go.ChangeAt Go.RowKit

set_option maxRecDepth 100000 in
set_option maxHeartbeats 2000000 in
theorem walk (A : Option Addr) (n c : Nat) (bs : List Int) (B : Option Addr) (m d : Nat) (ms : List Int) (W : World) (hA : HasB W A n bs) (hB : HasB W B m ms) (hn : n ≤ maxLen) (hm : m ≤ maxLen) :
    Calls Try.prog 4 #[.slice A n c, .slice B m d] W fun e W' => e = .returned (.bool true) ∧ Below W.heap.size W W' := by
  go_enter Try.func4, Try.ntmps4
  go_wp2_with fail
  refine (big_any A B n m c d _ hn hm).mono ?_
  rintro e w' ⟨b, rfl, rfl⟩
  cases b with
  | true =>
    go_wp2_with fail
    go_ret
    exact ⟨rfl, Below.refl _ _⟩
  | false =>
  go_wp2_with fail
  refine (DrawPolyThrough_any A n c bs _ hA).mono ?_
  rintro e w1 ⟨p, X, k, cX, Y, k', cY, rfl, hp, hk, hk', B1, ⟨xs, hx1⟩, ⟨ys, hy1⟩⟩
  have HP := Lib.hid hp
  obtain ⟨ls, ok, hq⟩ : ∃ ls ok, m_PolyThrough p xs ys = (ls, ok) := ⟨_, _, rfl⟩
  have HQ := Lib.hid hq
  have hcX : k ≤ cX := hx1.capLe
  have hcY : k' ≤ cY := hy1.capLe
  clear hp hq
  go_wp2_with fail
  refine (impl_PolyThrough p X k cX xs Y k' cY ys ls ok _ HP.out hx1.has ⟨by omega, hcX⟩ hy1.has ⟨by omega, hcY⟩ HQ.out).mono ?_
  rintro e w2 ⟨R2, k2, c2, rfl, o2, l2, b2⟩
  have B2 := B1.trans (b2.mono B1.size)
  have hx2 := hx1.has.below b2
  have hy2 := hy1.has.below b2
  clear hx1 hy1 b2 B1
  go_wp2_with fail
  refine (spec_PolyThrough p X k cX xs Y k' cY ys ls ok _ HP.out hx2 (by omega) hy2 (by omega) HQ.out).mono ?_
  rintro e w3 ⟨R3, k3, c3, rfl, o3, l3, b3⟩
  have B3 := B2.trans (b3.mono B2.size)
  have h3 := o2.has.below b3
  have hx3 := hx2.below b3
  have hy3 := hy2.below b3
  clear hx2 hy2 b3 B2 o2
  have hlen : ok = true → k3 = k := fun e => by
    have h5 := HQ.out
    rw [e] at h5
    have := (poly_law h5).1
    have := o3.1
    have := hx3.1
    omega
  have hL := Lib.hid hlen
  clear hlen
  go_upto_region 6 with fail
  go_cut [86] (fun v wx => v = .bool false ∧ Below w3.heap.size w3 wx)
  case first =>
    cases ok with
    | false =>
      go_wp2_with fail
      refine (sameInts_same R2 R3 k2 k3 c2 c3 ls _ h3 o3 (by omega)).mono ?_
      rintro e w4 ⟨rfl, b4⟩
      go_wp2_with fail
      go_meet
      exact ⟨rfl, b4⟩
    | true =>
      obtain rfl := hL.out rfl
      go_wp2_with fail
      refine (sameInts_same R2 R3 k2 k3 c2 c3 ls _ h3 o3 (by omega)).mono ?_
      rintro e w4 ⟨rfl, b4⟩
      go_wp2_with fail
      go_meet
      exact ⟨rfl, b4⟩
  case rest =>
    obtain ⟨rfl, b4⟩ := hcut
    have B4 := B3.trans (b4.mono B3.size)
    have h4 := h3.below b4
    have hx4 := hx3.below b4
    have hy4 := hy3.below b4
    clear hx3 hy3 h3 b4 B3 o3
    go_upto_if 87 with fail
    go_cut [] (fun wx => Below W.heap.size W wx)
    case first =>
      cases ok with
      | false =>
        go_wp2_with fail
        go_meet
        exact B4
      | true =>
        obtain ⟨hl, hly, h12, hlaw⟩ := poly_law HQ.out
        have HLaw := Lib.hid hlaw
        have hxl := hx4.1
        have hyl := hy4.1
        obtain rfl : k' = k := by omega
        have HXL := Lib.hid hxl
        clear hl hly hlaw hyl hxl
        go_wp2
        go_loopw [90] (fun jv wr => ∃ j : Nat, j ≤ k' ∧ jv = .int .i64 j ∧ Below wc.heap.size wc wr) (fun jv _ => k' - (intOf jv).toNat)
        case atStart => exact ⟨0, Nat.zero_le _, rfl, Below.refl _ _⟩
        case round =>
          obtain ⟨j, hj, rfl, hbj⟩ := hrel
          by_cases hlt : j < k'
          · have hxj := hx4.below hbj
            have hyj := hy4.below hbj
            have hlj := h4.below hbj
            obtain ⟨ad, x, rfl, hcx, HX⟩ := hxj.elem hlt
            obtain ⟨bd, y, rfl, hcy, HY⟩ := hyj.elem hlt
            obtain ⟨e1, e2, x0, x1⟩ := HLaw.out j (by rw [HXL.out]; exact hlt)
            rw [← HX.out, ← HY.out] at e1 e2
            rw [← HX.out] at x0 x1
            have HE1 := Lib.hid e1
            have HE2 := Lib.hid e2
            clear e1 e2
            go_wp2_with fail
            refine (impl_EvalPoly p R2 k2 c2 ls x y true wr HP.out hlj (by omega) (i64Small (by omega) (by omega)) HE1.out).mono ?_
            rintro e w6 ⟨rfl, b6⟩
            have hx6 := hxj.below b6
            have hy6 := hyj.below b6
            go_wp2_with fail
            refine (impl_InterpolateAt p (some ad) k' cX xs (some bd) k' cY ys x y true w6 HP.out hx6 ⟨by omega, hcX⟩ hy6 ⟨by omega, hcY⟩ (i64Small (by omega) (by omega)) HE2.out).mono ?_
            rintro e w7 ⟨rfl, b7⟩
            obtain ⟨bd2, y2, he2, hcy7, HY2⟩ := (hy6.below b7).elem hlt
            obtain rfl := Option.some.inj he2
            obtain rfl : y = y2 := HY.out.trans HY2.out.symm
            have hb7 := (hbj.trans (b6.mono hbj.size)).trans (b7.mono (Nat.le_trans hbj.size b6.size))
            go_wp2
            go_roundw
            case rel => exact ⟨j + 1, by omega, by go_num, hb7⟩
            case measure => simp [intOf]; omega
          · obtain rfl : j = k' := by omega
            go_wp2_with fail
            go_meet
            exact B4.trans (hbj.mono B4.size)
    case rest =>
      clear B4 h4 hx4 hy4 HQ HP hL l2 l3
      go_wp2_with fail
      refine (DrawInterpolateAt_any B m d ms _ (hB.below hcut)).mono ?_
      rintro e w5 ⟨p', X', k5, c5, Y', k6, c6, x, rfl, hp, hx, hk5, hk6, b5, ⟨us, hu⟩, ⟨vs, hv⟩⟩
      have HP := Lib.hid hp
      have HXI := Lib.hid hx
      have hcu := hu.capLe
      have hcv := hv.capLe
      have hcu' := Lib.hid hcu
      have hcv' := Lib.hid hcv
      have B5 := hcut.trans (b5.mono hcut.size)
      obtain ⟨y, ok2, hq⟩ : ∃ y ok, m_InterpolateAt p' us vs x = (y, ok) := ⟨_, _, rfl⟩
      have HQ := Lib.hid hq
      have hu5 := hu.has
      have hv5 := hv.has
      clear hp hx hq hcut b5 hu hv hcu hcv
      go_wp2_with fail
      refine (impl_InterpolateAt p' X' k5 c5 us Y' k6 c6 vs x y ok2 _ HP.out hu5 ⟨by omega, hcu'.out⟩ hv5 ⟨by omega, hcv'.out⟩ HXI.out HQ.out).mono ?_
      rintro e w6 ⟨rfl, b6⟩
      have B6 := B5.trans (b6.mono B5.size)
      have hu6 := hu5.below b6
      have hv6 := hv5.below b6
      clear b6 B5 hu5 hv5
      go_wp2_with fail
      refine (spec_InterpolateAt p' X' k5 c5 us Y' k6 c6 vs x y ok2 _ HP.out hu6 (by omega) hv6 (by omega) HXI.out HQ.out).mono ?_
      rintro e w7 ⟨rfl, b7⟩
      have B7 := B6.trans (b7.mono B6.size)
      clear b7 B6 hu6 hv6 HP HXI HQ hcu' hcv'
      go_wp2_with fail
      refine (DrawSolveLinear_any B m d ms _ (hB.below B7)).mono ?_
      rintro e w8 ⟨q, MA, qn, qc, RA, rk, rc, rfl, hq, hqn, hrk, b8, ⟨M, hM⟩, ⟨zs, hz⟩⟩
      have HQI := Lib.hid hq
      have B8 := B7.trans (b8.mono B7.size)
      obtain ⟨rs, ok3, hq3⟩ : ∃ rs ok, m_SolveLinear q qn M zs = (rs, ok) := ⟨_, _, rfl⟩
      have HQ3 := Lib.hid hq3
      clear hq hq3 b8 B7
      go_wp2_with fail
      refine (impl_SolveLinear q MA qn qc M RA rk rc zs rs ok3 _ HQI.out hM (by omega) hz (by omega) HQ3.out).mono ?_
      rintro e w9 ⟨R9, k9, c9, rfl, o9, l9, b9⟩
      have B9 := B8.trans (b9.mono B8.size)
      have hM9 := hM.below b9
      have hz9 := hz.below b9
      clear b9 B8 hM hz
      go_wp2_with fail
      refine (spec_SolveLinear q MA qn qc M RA rk rc zs rs ok3 _ HQI.out hM9 (by omega) hz9 (by omega) HQ3.out).mono ?_
      rintro e w10 ⟨R10, k10, c10, rfl, o10, l10, b10⟩
      have B10 := B9.trans (b10.mono B9.size)
      have hM10 := hM9.below b10
      have hz10 := hz9.below b10
      have h9 := o9.has.below b10
      clear b10 B9 hM9 hz9 o9
      go_wp2_with fail
      refine (sameInts_same R9 R10 k9 k10 c9 c10 rs _ h9 o10 (by omega)).mono ?_
      rintro e w11 ⟨rfl, b11⟩
      have B11 := B10.trans (b11.mono B10.size)
      have hM11 := hM10.below b11
      have hz11 := hz10.below b11
      have h11 := o10.below b11
      clear b11 B10 hM10 hz10 o10 h9
      go_upto_if 193 with fail
      go_cut [] (fun wx => Below W.heap.size W wx)
      case first =>
        cases ok3 with
        | false =>
          go_wp2_with fail
          go_meet
          exact B11
        | true =>
          obtain ⟨q2, q251, n1, n6, hzl, hrl, hlenM, hMin, hrin, hdot⟩ := solve_law HQ3.out
          obtain rfl : k10 = qn := by have := h11.1; omega
          obtain rfl : rk = k10 := by have := hz11.1; omega
          have HLen := Lib.hid hlenM
          have HMin := Lib.hid hMin
          have HRin := Lib.hid hrin
          have HDot := Lib.hid hdot
          clear hzl hrl hlenM hMin hrin hdot
          go_wp2
          go_loopw [196] (fun iv wr => ∃ i : Nat, i ≤ rk ∧ iv = .int .i64 i ∧ Below w11.heap.size w11 wr) (fun iv _ => rk - (intOf iv).toNat)
          case atStart => exact ⟨0, Nat.zero_le _, rfl, Below.refl _ _⟩
          case round =>
            obtain ⟨i, hi, rfl, hbi⟩ := hrel
            by_cases hli : i < rk
            · obtain ⟨ad, R0, m0, cR, rfl, hcR, hRow, hm1, _⟩ := (hM11.below hbi).elem hli
              obtain rfl : m0 = rk := by rw [← hRow.1]; exact HLen.out i hli
              have hsol := h11.below hbi
              have hzi := hz11.below hbi
              obtain ⟨zd, zv, rfl, hcz, HZ⟩ := hzi.elem hli
              have hbd := Lib.hid (dotBound q251 (fun c hc => HMin.out i hli c) (fun c hc => HRin.out c hc))
              go_wp2
              go_loop [35, 203] (fun sv jv => ∃ (j : Nat) (t : Int), j ≤ m0 ∧ jv = .int .i64 j ∧ sv = .int .i64 t ∧ 0 ≤ t ∧ t ≤ 62500 * (j : Int) ∧ Hid (t = dotTo (fun c => (M i).getD c 0) (fun c => rs.getD c 0) j)) (fun _ jv => m0 - (intOf jv).toNat)
              case atStart => exact ⟨0, 0, Nat.zero_le _, rfl, rfl, by omega, by omega, rfl⟩
              case round =>
                obtain ⟨j, t, hj, rfl, rfl, t0, t1, HT⟩ := hrel
                by_cases hlj : j < m0
                · obtain ⟨rd, z, rfl, hcz2, HZ2⟩ := hRow.elem hlj
                  obtain ⟨sd, sv, rfl, hcs, HS⟩ := hsol.elem hlj
                  obtain ⟨z0, z1⟩ : 0 ≤ z ∧ z < q := by rw [HZ2.out]; exact HMin.out i hli j
                  obtain ⟨s0, s1⟩ : 0 ≤ sv ∧ sv < q := by rw [HS.out]; exact HRin.out j hlj
                  obtain ⟨m0', m1'⟩ := mulFits q251 z0 z1 s0 s1
                  have hb1 := hbd.out (j + 1) (by omega)
                  rw [dotTo, ← HT.out, ← HZ2.out, ← HS.out] at hb1
                  obtain ⟨hb10, hb11⟩ := hb1
                  go_wp2
                  go_round
                  case rel => exact ⟨j + 1, t + z * sv, by omega, by go_num, rfl, hb10, by push_cast at hb11 ⊢; omega, by show _ = _; rw [dotTo, ← HT.out, ← HZ2.out, ← HS.out]⟩
                  case measure => simp [intOf]; omega
                · obtain rfl : j = m0 := by omega
                  have hd := HDot.out i hli
                  rw [← HT.out, ← HZ.out] at hd
                  have tm := tmodPos (a := t) (b := q) t0
                  have i0 : (0 : Int) ≤ (i : Int) := by omega
                  have i1 : (i : Int) < (j : Int) := by omega
                  go_wp2
                  go_quiet (fail)
                  go_wp2
                  go_roundw
                  case rel => exact ⟨i + 1, by omega, by go_num, below_drewN hbi _⟩
                  case measure => simp [intOf]; omega
            · obtain rfl : i = rk := by omega
              go_wp2_with fail
              go_meet
              exact B11.trans (hbi.mono B11.size)
      case rest =>
        clear B11 hM11 hz11 h11 HQ3 HQI
        go_wp2_with fail
        refine (DrawEvalPoly_any B m d ms _ (hB.below hcut)).mono ?_
        rintro e w12 ⟨t, RC, ck, cc, xe, rfl, ht, hxe, hck, b12, cs, hcs⟩
        have HT := Lib.hid ht
        have HXE := Lib.hid hxe
        have B12 := hcut.trans (b12.mono hcut.size)
        obtain ⟨ye, ok5, hq5⟩ : ∃ y ok, m_EvalPoly t cs xe = (y, ok) := ⟨_, _, rfl⟩
        have HQ5 := Lib.hid hq5
        have hcs12 := hcs.has
        clear ht hxe hq5 hcut b12 hcs
        go_wp2_with fail
        refine (impl_EvalPoly t RC ck cc cs xe ye ok5 _ HT.out hcs12 (by omega) HXE.out HQ5.out).mono ?_
        rintro e w13 ⟨rfl, b13⟩
        have B13 := B12.trans (b13.mono B12.size)
        have hcs13 := hcs12.below b13
        go_wp2_with fail
        refine (spec_EvalPoly t RC ck cc cs xe ye ok5 _ HT.out hcs13 (by omega) HXE.out HQ5.out).mono ?_
        rintro e w14 ⟨rfl, b14⟩
        have B14 := B13.trans (b14.mono B13.size)
        go_wp2_with fail
        go_ret
        exact ⟨by simp, B14⟩

end Go.Proofs.Ytkmnhdnifpglnaa.lawPolynomials
