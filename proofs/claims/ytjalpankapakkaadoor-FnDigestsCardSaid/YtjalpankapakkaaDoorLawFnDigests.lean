/- The law of digests: for every two lists of bytes, digests are labels, labels are digests of their parts, and no more digests than lists are counted. Its condition: the program's table reads as it is laid at the start. -/
import Derived.Test.YtjalpankapakkaaDoorCur9
import Derived.Test.YtjalpankapakkaaDoorCur10
import Derived.Test.YtjalpankapakkaaDoorDigLaw
import Derived.Test.YtjalpankapakkaaDoorDg9
import Derived.Test.YtjalpankapakkaaDoorDg10
import Derived.Test.YtjalpankapakkaaDoorGenHelp
import Derived.Deep.DeepCutAuto
namespace Go.Proofs.YtjalpankapakkaaDoor.lawDigests
open Go.ChangeShapes Go.WideShapes Go.ChangeAt Go.RowKit

set_option maxRecDepth 100000 in
set_option maxHeartbeats 2000000 in
theorem walk (A : Option Addr) (n c : Nat) (bs : List Int) (B : Option Addr) (m d : Nat) (ms : List Int) (W : World) (hA : HasB W A n bs) (hB : HasB W B m ms) (hn : n ≤ maxLen) (hm : m ≤ maxLen) (hT0 : Starts W) :
    Calls Tryd.prog 4 #[.slice A n c, .slice B m d] W fun e W' => e = .returned (.bool true) ∧ Below W.heap.size W W' := by
  go_enter Tryd.func4, Tryd.ntmps4
  go_wp2_with fail
  refine (big_any A B n m c d _ hn hm).mono ?_
  rintro e w' ⟨b, rfl, rfl⟩
  cases b with
  | true =>
    go_wp2_with fail
    go_ret
    exact ⟨rfl, Below.refl _ _⟩
  | false =>
  go_wp2_with fail
  refine (DrawDigestOf_any A n c bs _ hA).mono ?_
  rintro e w1 ⟨R1, k1, c1, zs, rfl, o1, hk1, B1⟩
  obtain ⟨y, ok, hq⟩ : ∃ y ok, m_DigestOf zs = (y, ok) := ⟨_, _, rfl⟩
  have HQ := Lib.hid hq
  have HN := Lib.hid (own_nilOk o1)
  have h1 := o1.has
  clear hq o1
  go_wp2_with fail
  refine (impl_DigestOf R1 k1 c1 zs y ok _ h1 (by omega) HN.out (hT0.below B1) HQ.out).mono ?_
  rintro e w2 ⟨rfl, b2⟩
  have B2 := B1.trans (b2.mono B1.size)
  have h2 := h1.below b2
  clear b2 B1 h1
  go_wp2_with fail
  refine (spec_DigestOf R1 k1 c1 zs y ok _ h2 (by omega) HN.out HQ.out).mono ?_
  rintro e w3 ⟨rfl, b3⟩
  have B3 := B2.trans (b3.mono B2.size)
  clear b3 B2 h2 HN
  go_upto_region 6 with fail
  go_cut [60] (fun v wx => v = .bool false ∧ w3 = wx)
  case first =>
    cases ok with
    | false =>
      go_wp2_with fail
      go_meet
      exact ⟨rfl, rfl⟩
    | true =>
      obtain ⟨y0, y1⟩ := digest_law HQ.out
      go_wp2_with fail
      go_meet
      exact ⟨by simp; omega, rfl⟩
  case rest =>
  obtain ⟨rfl, rfl⟩ := hcut
  clear HQ
  go_wp2_with fail
  refine (DrawLabelFor_any B m d ms _ (hB.below B3)).mono ?_
  rintro e w4 ⟨p0, p1, p2, p3, rfl, i0, i1, i2, i3, b4⟩
  have B4 := B3.trans (b4.mono B3.size)
  have I0 := Lib.hid i0
  have I1 := Lib.hid i1
  have I2 := Lib.hid i2
  have I3 := Lib.hid i3
  obtain ⟨y2, ok2, hq2⟩ : ∃ y ok, m_LabelFor p0 p1 p2 p3 = (y, ok) := ⟨_, _, rfl⟩
  have HQ2 := Lib.hid hq2
  clear hq2 b4 B3 i0 i1 i2 i3
  go_wp2_with fail
  refine (impl_LabelFor p0 p1 p2 p3 y2 ok2 _ I0.out I1.out I2.out I3.out (hT0.below B4) HQ2.out).mono ?_
  rintro e w5 ⟨rfl, b5⟩
  have B5 := B4.trans (b5.mono B4.size)
  clear b5 B4
  go_wp2_with fail
  refine (spec_LabelFor p0 p1 p2 p3 y2 ok2 _ I0.out I1.out I2.out I3.out HQ2.out).mono ?_
  rintro e w6 ⟨rfl, b6⟩
  have B6 := B5.trans (b6.mono B5.size)
  clear b6 B5
  go_upto_if 92 with fail
  go_cut [] (fun wx => Below W.heap.size W wx)
  case first =>
    cases ok2 with
    | false =>
      go_wp2_with fail
      go_meet
      exact B6
    | true =>
      have HD : Hid (m_DigestOf [p0, p1, p2, p3] = (y2, true)) := HQ2.out
      have b7 := belowNew w6 (.cells #[.int .i64 p0, .int .i64 p1, .int .i64 p2, .int .i64 p3] 3)
      have h7 : Has (w6.alloc (.cells #[.int .i64 p0, .int .i64 p1, .int .i64 p2, .int .i64 p3] 3)) (some ⟨w6.heap.size, 0, none⟩) 4 [p0, p1, p2, p3] := litHas rfl rfl
      have B7 := B6.trans (b7.mono B6.size)
      clear b7 B6
      go_wp2_with fail
      refine (impl_DigestOf _ 4 4 [p0, p1, p2, p3] y2 true _ h7 (by omega) (fun e => nomatch e) (hT0.below B7) HD.out).mono ?_
      rintro e w8 ⟨rfl, b8⟩
      have B8 := B7.trans (b8.mono B7.size)
      go_wp2_with fail
      go_meet
      exact B8
  case rest =>
  rename_i wc
  clear B6 HQ2
  go_wp2_with fail
  refine (DrawCountDigests_any B m d ms _ (hB.below hcut)).mono ?_
  rintro e w9 ⟨x, z, rfl, ix, iz, b9⟩
  have B9 := hcut.trans (b9.mono hcut.size)
  have IX := Lib.hid ix
  have IZ := Lib.hid iz
  obtain ⟨y3, ok3, hq3⟩ : ∃ y ok, m_CountDigests x z = (y, ok) := ⟨_, _, rfl⟩
  have HQ3 := Lib.hid hq3
  clear hq3 b9 hcut ix iz
  go_wp2_with fail
  refine (impl_CountDigests x z y3 ok3 _ IX.out IZ.out (hT0.below B9) HQ3.out).mono ?_
  rintro e w10 ⟨rfl, b10⟩
  have B10 := B9.trans (b10.mono B9.size)
  clear b10 B9
  go_wp2_with fail
  refine (spec_CountDigests x z y3 ok3 _ IX.out IZ.out HQ3.out).mono ?_
  rintro e w11 ⟨rfl, b11⟩
  have B11 := B10.trans (b11.mono B10.size)
  clear b11 B10
  go_upto_region 20 with fail
  go_cut [149] (fun v wx => v = .bool false ∧ w11 = wx)
  case first =>
    cases ok3 with
    | false =>
      go_wp2_with fail
      go_meet
      exact ⟨rfl, rfl⟩
    | true =>
      obtain ⟨n0, n1, y0, y1, y2⟩ := count_law HQ3.out
      by_cases hz : 0 < z
      · have := y2 hz
        go_wp2_with fail
        go_meet
        exact ⟨by simp; omega, rfl⟩
      · go_wp2_with fail
        go_meet
        exact ⟨by simp; omega, rfl⟩
  case rest =>
  obtain ⟨rfl, rfl⟩ := hcut
  clear HQ3
  go_wp2_with fail
  refine (DrawTextDigest_any B m d ms _ (hB.below B11)).mono ?_
  rintro e w12 ⟨s, rfl, hs, b12⟩
  have B12 := B11.trans (b12.mono B11.size)
  clear b12 B11
  go_wp2_with fail
  refine (impl_TextDigest s _ _ (by omega) rfl).mono ?_
  rintro e w13 ⟨rfl, b13⟩
  have B13 := B12.trans (b13.mono B12.size)
  clear b13 B12
  generalize hg : m_TextDigest s = t
  go_wp2_with fail
  refine (spec_TextDigest s t _ (by omega) hg).mono ?_
  rintro e w14 ⟨rfl, b14⟩
  have B14 := B13.trans (b14.mono B13.size)
  go_wp2_with fail
  go_ret
  exact ⟨by simp, B14⟩

end Go.Proofs.YtjalpankapakkaaDoor.lawDigests
