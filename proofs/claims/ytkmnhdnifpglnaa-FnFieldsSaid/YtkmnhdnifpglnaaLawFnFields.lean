/- The law of fields: for every two lists of bytes, for drawn elements inverses and quotients are undone, and powers follow the order. -/
import Derived.Test.YtkmnhdnifpglnaaCur3
import Derived.Test.YtkmnhdnifpglnaaFldLaw
import Derived.Test.YtkmnhdnifpglnaaGenHelp
import Derived.Deep.DeepCutAuto
namespace Go.Proofs.Ytkmnhdnifpglnaa.lawFields
open Go.ChangeShapes Go.WideShapes Go.ChangeAt Go.RowKit

set_option maxRecDepth 100000 in
set_option maxHeartbeats 4000000 in
theorem walk (A : Option Addr) (n c : Nat) (bs : List Int) (B : Option Addr) (m d : Nat) (ms : List Int) (W : World) (hA : HasB W A n bs) (hB : HasB W B m ms) (hn : n ≤ maxLen) (hm : m ≤ maxLen) :
    Calls Try.prog 3 #[.slice A n c, .slice B m d] W fun e W' => e = .returned (.bool true) ∧ Below W.heap.size W W' := by
  go_enter Try.func3, Try.ntmps3
  go_wp2_with fail
  refine (big_any A B n m c d _ hn hm).mono ?_
  rintro e w' ⟨b, rfl, rfl⟩
  cases b with
  | true =>
    go_wp2_with fail
    go_ret
    exact ⟨rfl, Below.refl _ _⟩
  | false =>
  go_wp2_with fail
  refine (DrawDivideMod_any A n c bs _ hA).mono ?_
  rintro e w1 ⟨p, a, b, rfl, hp, ha, hb, B1⟩
  have HP := Lib.hid hp
  have HAI := Lib.hid ha
  have HBI := Lib.hid hb
  clear hp ha hb
  obtain ⟨q, ok, hq⟩ : ∃ q ok, m_DivideMod p a b = (q, ok) := ⟨_, _, rfl⟩
  have HQ := Lib.hid hq
  clear hq
  go_wp2_with fail
  refine (impl_DivideMod p a b q ok _ HP.out HAI.out HBI.out HQ.out).mono ?_
  rintro e w2 ⟨rfl, b2⟩
  have B2 := B1.trans (b2.mono B1.size)
  go_wp2_with fail
  refine (spec_DivideMod p a b q ok _ HP.out HAI.out HBI.out HQ.out).mono ?_
  rintro e w3 ⟨rfl, b3⟩
  have B3 := B2.trans (b3.mono B2.size)
  obtain ⟨ip, hip⟩ : ∃ ip, m_IsPrime p = ip := ⟨_, rfl⟩
  have HIP := Lib.hid hip
  clear hip b2 b3 B1 B2
  go_wp2_with fail
  refine (impl_IsPrime p ip _ HP.out HIP.out).mono ?_
  rintro e w4 ⟨rfl, b4⟩
  have B4 := B3.trans (b4.mono B3.size)
  go_wp2_with fail
  refine (spec_IsPrime p ip _ HP.out HIP.out).mono ?_
  rintro e w5 ⟨rfl, b5⟩
  have B5 := B4.trans (b5.mono B4.size)
  clear b4 b5 B3 B4
  go_upto_if 84 with fail
  go_cut [] (fun wx => Below W.heap.size W wx)
  case first =>
    cases ok with
    | false =>
      go_wp2_with fail
      go_meet
      exact B5
    | true =>
      obtain ⟨h1, i, h2, h3, q0, q1, i0, i1⟩ := divide_law HQ.out
      have H1 := Lib.hid h1
      have H2 := Lib.hid h2
      have H3 := Lib.hid h3
      clear h1 h2 h3
      go_wp2_with fail
      refine (impl_MulMod p q b a true _ HP.out (i64Small (by omega) (by omega)) HBI.out H1.out).mono ?_
      rintro e w6 ⟨rfl, b6⟩
      have B6 := B5.trans (b6.mono B5.size)
      go_wp2_with fail
      refine (impl_InverseMod p b i true _ HP.out HBI.out H2.out).mono ?_
      rintro e w7 ⟨rfl, b7⟩
      have B7 := B6.trans (b7.mono B6.size)
      go_wp2_with fail
      refine (impl_MulMod p i b 1 true _ HP.out (i64Small (by omega) (by omega)) HBI.out H3.out).mono ?_
      rintro e w8 ⟨rfl, b8⟩
      have B8 := B7.trans (b8.mono B7.size)
      go_wp2_with fail
      go_meet
      exact B8
  case rest =>
    clear B5 HQ HIP HP HAI HBI
    go_wp2_with fail
    refine (DrawOrderMod_any B m d ms _ (hB.below hcut)).mono ?_
    rintro e w6 ⟨r, x, rfl, hr, hx, b6⟩
    have HR := Lib.hid hr
    have HX := Lib.hid hx
    clear hr hx
    have B6 := hcut.trans (b6.mono hcut.size)
    obtain ⟨o, ok, hq⟩ : ∃ o ok, m_OrderMod r x = (o, ok) := ⟨_, _, rfl⟩
    have HQ := Lib.hid hq
    clear hq hcut b6
    go_wp2_with fail
    refine (impl_OrderMod r x o ok _ HR.out HX.out HQ.out).mono ?_
    rintro e w7 ⟨rfl, b7⟩
    have B7 := B6.trans (b7.mono B6.size)
    go_wp2_with fail
    refine (spec_OrderMod r x o ok _ HR.out HX.out HQ.out).mono ?_
    rintro e w8 ⟨rfl, b8⟩
    have B8 := B7.trans (b8.mono B7.size)
    clear b7 b8 B6 B7
    go_upto_if 149 with fail
    go_cut [] (fun wx => Below W.heap.size W wx)
    case first =>
      cases ok with
      | false =>
        go_wp2_with fail
        go_meet
        exact B8
      | true =>
        obtain ⟨o0, o1, r0, r1, h1, h2, h3⟩ := order_law HQ.out
        have H1 := Lib.hid h1
        have H2 := Lib.hid h2
        have tm := tmodPos (a := r - 1) (b := o) (by omega)
        have hne : ((r - 1) % o != 0) = false := by simp [h3]
        clear h1 h2
        go_wp2_with fail
        refine (impl_PowMod r x o 1 true _ HR.out HX.out (i64Small (by omega) (by omega)) H1.out).mono ?_
        rintro e w9 ⟨rfl, b9⟩
        have B9 := B8.trans (b9.mono B8.size)
        go_wp2_with fail
        refine (impl_PowMod r x (o + 1) x true _ HR.out HX.out (i64Small (by omega) (by omega)) H2.out).mono ?_
        rintro e w10 ⟨rfl, b10⟩
        have B10 := B9.trans (b10.mono B9.size)
        clear b9 b10 B8 B9
        go_wp2_with fail
        go_meet
        exact B10
    case rest =>
      clear B8 HQ HR HX
      go_wp2_with fail
      refine (DrawAddMod_any B m d ms _ (hB.below hcut)).mono ?_
      rintro e w9 ⟨s, u, v, rfl, hs, hu, hv, b9⟩
      have HS := Lib.hid hs
      have HU := Lib.hid hu
      have HV := Lib.hid hv
      clear hs hu hv
      have B9 := hcut.trans (b9.mono hcut.size)
      obtain ⟨y1, k1, h1⟩ : ∃ y k, m_AddMod s u v = (y, k) := ⟨_, _, rfl⟩
      obtain ⟨y2, k2, h2⟩ : ∃ y k, m_MulMod s u v = (y, k) := ⟨_, _, rfl⟩
      have H1 := Lib.hid h1
      have H2 := Lib.hid h2
      clear h1 h2 hcut b9
      go_wp2_with fail
      refine (impl_AddMod s u v y1 k1 _ HS.out HU.out HV.out H1.out).mono ?_
      rintro e w10 ⟨rfl, b10⟩
      have B10 := B9.trans (b10.mono B9.size)
      go_wp2_with fail
      refine (spec_AddMod s u v y1 k1 _ HS.out HU.out HV.out H1.out).mono ?_
      rintro e w11 ⟨rfl, b11⟩
      have B11 := B10.trans (b11.mono B10.size)
      clear b10 b11 B9 B10
      go_wp2_with fail
      refine (impl_MulMod s u v y2 k2 _ HS.out HU.out HV.out H2.out).mono ?_
      rintro e w12 ⟨rfl, b12⟩
      have B12 := B11.trans (b12.mono B11.size)
      go_wp2_with fail
      refine (spec_MulMod s u v y2 k2 _ HS.out HU.out HV.out H2.out).mono ?_
      rintro e w13 ⟨rfl, b13⟩
      have B13 := B12.trans (b13.mono B12.size)
      clear b12 b13 B11 B12
      go_wp2_with fail
      refine (DrawPowMod_any B m d ms _ (hB.below B13)).mono ?_
      rintro e w14 ⟨t, g, z, rfl, ht, hg, hz, b14⟩
      have HT := Lib.hid ht
      have HG := Lib.hid hg
      have HZ := Lib.hid hz
      clear ht hg hz
      have B14 := B13.trans (b14.mono B13.size)
      obtain ⟨y3, k3, h3⟩ : ∃ y k, m_PowMod t g z = (y, k) := ⟨_, _, rfl⟩
      have H3 := Lib.hid h3
      clear h3 b14 B13
      go_wp2_with fail
      refine (impl_PowMod t g z y3 k3 _ HT.out HG.out HZ.out H3.out).mono ?_
      rintro e w15 ⟨rfl, b15⟩
      have B15 := B14.trans (b15.mono B14.size)
      go_wp2_with fail
      refine (spec_PowMod t g z y3 k3 _ HT.out HG.out HZ.out H3.out).mono ?_
      rintro e w16 ⟨rfl, b16⟩
      have B16 := B15.trans (b16.mono B15.size)
      go_wp2_with fail
      go_ret
      exact ⟨by simp, B16⟩

end Go.Proofs.Ytkmnhdnifpglnaa.lawFields
