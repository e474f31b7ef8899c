/- The law of streams: for every two lists of bytes, streams undo themselves, numbers are below their bounds, and orders have all numbers. Its condition: the program's table reads as it is laid at the start. -/
import Derived.Test.YtjalpankapakkaaDoorCur8
import Derived.Test.YtjalpankapakkaaDoorStrLaw
import Derived.Test.YtjalpankapakkaaDoorDg7
import Derived.Test.YtjalpankapakkaaDoorGenHelp
import Derived.Deep.DeepCutAuto
import Derived.Deep.CutBlock
namespace Go.Proofs.YtjalpankapakkaaDoor.lawStreams
open Go.ChangeShapes Go.WideShapes Go.ChangeAt Go.RowKit

set_option maxRecDepth 100000 in
set_option maxHeartbeats 2000000 in
theorem walk (A : Option Addr) (n c : Nat) (bs : List Int) (B : Option Addr) (m d : Nat) (ms : List Int) (W : World) (hA : HasB W A n bs) (hB : HasB W B m ms) (hn : n ≤ maxLen) (hm : m ≤ maxLen) (hT0 : Starts W) :
    Calls Tryd.prog 3 #[.slice A n c, .slice B m d] W fun e W' => e = .returned (.bool true) ∧ Below W.heap.size W W' := by
  go_enter Tryd.func3, Tryd.ntmps3
  go_wp2_with fail
  refine (big_any A B n m c d _ hn hm).mono ?_
  rintro e w' ⟨b, rfl, rfl⟩
  cases b with
  | true =>
    go_wp2_with fail
    go_ret
    exact ⟨rfl, Below.refl _ _⟩
  | false =>
  go_wp2_with fail
  refine (DrawStreamXor_any A n c bs _ hA).mono ?_
  rintro e w1 ⟨X, k, cX, xs, Y, k', cY, ys, rfl, ox, hk, oy, hk', B1⟩
  obtain ⟨rs, ok, hq⟩ : ∃ rs ok, m_StreamXor xs ys = (rs, ok) := ⟨_, _, rfl⟩
  have HQ := Lib.hid hq
  have NX := Lib.hid (own_nilOk ox)
  have NY := Lib.hid (own_nilOk oy)
  have hx := ox.has
  have hy := oy.has
  clear hq ox oy
  go_wp2_with fail
  refine (impl_StreamXor X k cX xs Y k' cY ys rs ok _ hx (by omega) NX.out hy (by omega) NY.out (hT0.below B1) HQ.out).mono ?_
  rintro e w2 ⟨R2, k2, c2, rfl, o2, l2, b2⟩
  have B2 := B1.trans (b2.mono B1.size)
  have hx2 := hx.below b2
  have hy2 := hy.below b2
  have N2 := Lib.hid (own_nilOk o2)
  have h2 := o2.has
  clear b2 B1 hx hy o2
  go_wp2_with fail
  refine (spec_StreamXor X k cX xs Y k' cY ys rs ok _ hx2 (by omega) NX.out hy2 (by omega) NY.out HQ.out).mono ?_
  rintro e w3 ⟨R3, k3, c3, rfl, h3, l3, b3⟩
  have B3 := B2.trans (b3.mono B2.size)
  have hx3 := hx2.below b3
  have hy3 := hy2.below b3
  have g3 := h2.below b3
  clear b3 B2 hx2 hy2 h2
  go_wp2_with fail
  refine (sameInts_same R2 R3 k2 k3 c2 c3 rs _ g3 h3 (by omega)).mono ?_
  rintro e w4 ⟨rfl, b4⟩
  have B4 := B3.trans (b4.mono B3.size)
  have hx4 := hx3.below b4
  have hy4 := hy3.below b4
  have g4 := g3.below b4
  clear b4 B3 hx3 hy3 g3 h3
  go_upto_if 61 with fail
  go_cut [] (fun wx => Below W.heap.size W wx)
  case first =>
    cases ok with
    | false =>
      go_wp2_with fail
      go_meet
      exact B4
    | true =>
      have HU := Lib.hid (undo_law HQ.out).1
      go_wp2_with fail
      refine (impl_StreamXor X k cX xs R2 k2 c2 rs ys true _ hx4 (by omega) NX.out g4 (by omega) N2.out (hT0.below B4) HU.out).mono ?_
      rintro e w5 ⟨R5, k5, c5, rfl, o5, l5, b5⟩
      have B5 := B4.trans (b5.mono B4.size)
      have hy5 := hy4.below b5
      have h5 := o5.has
      clear b5 B4 hx4 g4 o5
      go_wp2_with fail
      refine (sameInts_same R5 Y k5 k' c5 cY ys _ h5 hy5 (by omega)).mono ?_
      rintro e w6 ⟨rfl, b6⟩
      have B6 := B5.trans (b6.mono B5.size)
      go_wp2_with fail
      go_meet
      exact B6
  case rest =>
  clear B4 hx4 hy4 g4 HQ NX NY N2 l2 l3 hk hk'
  have B7 := hcut
  clear hcut
  go_wp2_with fail
  refine (DrawOrderFrom_any B m d ms _ (hB.below B7)).mono ?_
  rintro e w8 ⟨L, q, cL, ls, x, rfl, oL, hq, ix, b8⟩
  have B8 := B7.trans (b8.mono B7.size)
  have IX := Lib.hid ix
  have NL := Lib.hid (own_nilOk oL)
  have hL := oL.has
  obtain ⟨os, ok2, hq2⟩ : ∃ rs ok, m_OrderFrom ls x = (rs, ok) := ⟨_, _, rfl⟩
  have HQ2 := Lib.hid hq2
  clear hq2 b8 B7 oL ix
  go_wp2_with fail
  refine (impl_OrderFrom L q cL ls x os ok2 _ hL (by omega) NL.out IX.out (hT0.below B8) HQ2.out).mono ?_
  rintro e w9 ⟨R9, k9, c9, rfl, o9, l9, b9⟩
  have B9 := B8.trans (b9.mono B8.size)
  have hL9 := hL.below b9
  have g9 := o9.has
  clear b9 B8 hL o9
  go_wp2_with fail
  refine (spec_OrderFrom L q cL ls x os ok2 _ hL9 (by omega) NL.out IX.out HQ2.out).mono ?_
  rintro e w10 ⟨R10, k10, c10, rfl, h10, l10, b10⟩
  have B10 := B9.trans (b10.mono B9.size)
  have g10 := g9.below b10
  clear b10 B9 hL9 g9
  go_wp2_with fail
  refine (sameInts_same R9 R10 k9 k10 c9 c10 os _ g10 h10 (by omega)).mono ?_
  rintro e w11 ⟨rfl, b11⟩
  have B11 := B10.trans (b11.mono B10.size)
  have h11 := h10.below b11
  clear b11 B10 g10 h10
  go_upto_block 0 with fail
  go_cut [] (fun wx => w11 = wx)
  case first =>
    cases ok2 with
    | false =>
      go_wp2_with fail
      go_loop [19] (fun iv => iv = .int .i64 0) (fun _ => 0)
      case atStart => rfl
      case round =>
        subst hrel
        go_wp2_with fail
        go_meet
        rfl
    | true =>
      obtain ⟨x0, x1, _, hall⟩ := order_law2 HQ2.out
      have HA := Lib.hid hall
      clear hall
      go_wp2_with fail
      go_loop [19] (fun iv => ∃ i : Int, 0 ≤ i ∧ i ≤ x ∧ iv = .int .i64 i) (fun iv => (x - intOf iv).toNat)
      case atStart => exact ⟨0, by omega, x0, rfl⟩
      case round =>
        obtain ⟨i, i0, i1, rfl⟩ := hrel
        by_cases hi : i < x
        · obtain ⟨j, rfl⟩ : ∃ j : Nat, i = (j : Int) := ⟨i.toNat, by omega⟩
          go_wp2_with fail
          refine (pIn_any R10 k10 c10 os _ _ h11 (by omega) (HA.out j hi)).mono ?_
          rintro e w12 ⟨rfl, rfl⟩
          go_wp2_with fail
          go_round
          case rel => exact ⟨j + 1, by omega, by omega, rfl⟩
          case measure => simp [intOf]; omega
        · go_wp2_with fail
          go_meet
          rfl
  case rest =>
  subst hcut
  clear HQ2 h11 NL IX l9 l10 hq
  go_wp2_with fail
  refine (DrawNumberFrom_any B m d ms _ (hB.below B11)).mono ?_
  rintro e w13 ⟨M, q2, cM, ns, z, rfl, oM, hq2, iz, b13⟩
  have B13 := B11.trans (b13.mono B11.size)
  have IZ := Lib.hid iz
  have NM := Lib.hid (own_nilOk oM)
  have hM := oM.has
  obtain ⟨y, ok3, hq3⟩ : ∃ y ok, m_NumberFrom ns z = (y, ok) := ⟨_, _, rfl⟩
  have HQ3 := Lib.hid hq3
  clear hq3 b13 B11 oM iz
  go_wp2_with fail
  refine (impl_NumberFrom M q2 cM ns z y ok3 _ hM (by omega) NM.out IZ.out (hT0.below B13) HQ3.out).mono ?_
  rintro e w14 ⟨rfl, b14⟩
  have B14 := B13.trans (b14.mono B13.size)
  have hM14 := hM.below b14
  clear b14 B13 hM
  go_wp2_with fail
  refine (spec_NumberFrom M q2 cM ns z y ok3 _ hM14 (by omega) NM.out IZ.out HQ3.out).mono ?_
  rintro e w15 ⟨rfl, b15⟩
  have B15 := B14.trans (b15.mono B14.size)
  clear b15 B14 hM14
  go_upto_region 25 with fail
  go_cut [150] (fun v wx => v = .bool false ∧ w15 = wx)
  case first =>
    cases ok3 with
    | false =>
      go_wp2_with fail
      go_meet
      exact ⟨rfl, rfl⟩
    | true =>
      obtain ⟨y0, y1⟩ := number_law HQ3.out
      go_wp2_with fail
      go_meet
      exact ⟨by simp; omega, rfl⟩
  case rest =>
  obtain ⟨rfl, rfl⟩ := hcut
  clear HQ3 NM IZ hq2
  go_wp2_with fail
  refine (DrawBitsFrom_any B m d ms _ (hB.below B15)).mono ?_
  rintro e w16 ⟨V, q3, cV, us, u, rfl, oV, hq3, iu, b16⟩
  have B16 := B15.trans (b16.mono B15.size)
  have IU := Lib.hid iu
  have NV := Lib.hid (own_nilOk oV)
  have hV := oV.has
  obtain ⟨fs, ok4, hq4⟩ : ∃ rs ok, m_BitsFrom us u = (rs, ok) := ⟨_, _, rfl⟩
  have HQ4 := Lib.hid hq4
  clear hq4 b16 B15 oV iu
  go_wp2_with fail
  refine (impl_BitsFrom V q3 cV us u fs ok4 _ hV (by omega) NV.out IU.out (hT0.below B16) HQ4.out).mono ?_
  rintro e w17 ⟨R17, k17, c17, rfl, o17, l17, b17⟩
  have B17 := B16.trans (b17.mono B16.size)
  have hV17 := hV.below b17
  have g17 := o17.has
  clear b17 B16 hV o17
  go_wp2_with fail
  refine (spec_BitsFrom V q3 cV us u fs ok4 _ hV17 (by omega) NV.out IU.out HQ4.out).mono ?_
  rintro e w18 ⟨R18, k18, c18, rfl, h18, l18, b18⟩
  have B18 := B17.trans (b18.mono B17.size)
  have g18 := g17.below b18
  clear b18 B17 hV17 g17
  go_wp2_with fail
  refine (sameInts_same R17 R18 k17 k18 c17 c18 fs _ g18 h18 (by omega)).mono ?_
  rintro e w19 ⟨rfl, b19⟩
  have B19 := B18.trans (b19.mono B18.size)
  go_wp2_with fail
  go_ret
  exact ⟨by simp, B19⟩

end Go.Proofs.YtjalpankapakkaaDoor.lawStreams
