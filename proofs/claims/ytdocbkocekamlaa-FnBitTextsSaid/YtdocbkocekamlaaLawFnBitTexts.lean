/- The law of the texts of bits: for every two lists of bytes, drawn texts are read back, the opposite of the opposite is the same, and parities add up. -/
import Derived.Test.YtdocbkocekamlaaCur2
import Derived.Test.YtdocbkocekamlaaBitsMath
import Derived.Deep.DeepCutAuto
namespace Go.Proofs.Ytdocbkocekamlaa.lawBitTexts
open Go.ChangeShapes Go.WideShapes Go.ChangeAt Go.RowKit

set_option maxRecDepth 100000 in
set_option maxHeartbeats 4000000 in
theorem walk (A : Option Addr) (n c : Nat) (bs : List Int) (B : Option Addr) (m d : Nat) (ms : List Int) (W : World) (hA : HasB W A n bs) (hB : HasB W B m ms) (hn : n ≤ maxLen) (hm : m ≤ maxLen) :
    Calls Try.prog 4 #[.slice A n c, .slice B m d] W fun e W' => e = .returned (.bool true) ∧ Below W.heap.size W W' := by
  go_enter Try.func4, Try.ntmps4
  go_wp2_with fail
  refine (big_any A B n m c d _ hn hm).mono ?_
  rintro e w' ⟨b, rfl, rfl⟩
  cases b with
  | true =>
    go_wp2_with fail
    go_ret
    exact ⟨rfl, Below.refl _ _⟩
  | false =>
  go_wp2_with fail
  refine (DrawParseBits_any A n c bs _ hA).mono ?_
  rintro e w1 ⟨s, rfl, hs, b1⟩
  obtain ⟨rs, rb, hq⟩ : ∃ rs rb, m_ParseBits s = (rs, rb) := ⟨_, _, rfl⟩
  have HQ := Lib.hid hq
  clear hq
  go_wp2_with fail
  refine (impl_ParseBits s rs rb _ (by omega) HQ.out).mono ?_
  rintro e w2 ⟨R2, k2, c2, rfl, o2, l2, b2⟩
  have B2 := b1.trans (b2.mono b1.size)
  go_wp2_with fail
  refine (spec_ParseBits s rs rb _ (by omega) HQ.out).mono ?_
  rintro e w3 ⟨R3, k3, c3, rfl, o3, l3, b3⟩
  have h3 := o2.has.below b3
  have B3 := B2.trans (b3.mono B2.size)
  clear b1 b2 b3 o2 B2
  go_wp2_with fail
  refine (sameInts_same R2 R3 k2 k3 c2 c3 rs _ h3 o3 (by omega)).mono ?_
  rintro e w4 ⟨rfl, b4⟩
  have h4 := h3.below b4
  have B4 := B3.trans (b4.mono B3.size)
  clear b4 B3 h3 o3
  go_upto_if 56 with fail
  go_cut [] (fun wx => Below W.heap.size W wx)
  case first =>
    cases rb with
    | false =>
      go_wp2_with fail
      go_meet
      exact B4
    | true =>
      obtain ⟨hp1, ns, hp2, hp3⟩ := parse_law HQ.out
      have P1 := Lib.hid hp1
      have P2 := Lib.hid hp2
      have P3 := Lib.hid hp3
      clear hp1 hp2 hp3
      go_wp2_with fail
      refine (impl_BitsText R2 k2 c2 rs s true _ h4 (by omega) P1.out).mono ?_
      rintro e w5 ⟨rfl, b5⟩
      have h5 := h4.below b5
      have B5 := B4.trans (b5.mono B4.size)
      clear h4 b5 B4
      go_wp2_with fail
      refine (impl_NotBits R2 k2 c2 rs ns true _ h5 (by omega) P2.out).mono ?_
      rintro e w6 ⟨R6, k6, c6, rfl, o6, l6, b6⟩
      have h6 := h5.below b6
      have B6 := B5.trans (b6.mono B5.size)
      clear h5 b6 B5
      go_wp2_with fail
      refine (impl_NotBits R6 k6 c6 ns rs true _ o6.has (by omega) P3.out).mono ?_
      rintro e w7 ⟨R7, k7, c7, rfl, o7, l7, b7⟩
      have h7 := h6.below b7
      have B7 := B6.trans (b7.mono B6.size)
      clear h6 b7 B6 o6
      go_wp2_with fail
      refine (sameInts_same R7 R2 k7 k2 c7 c2 rs _ o7.has h7 (by omega)).mono ?_
      rintro e w8 ⟨rfl, b8⟩
      have B8 := B7.trans (b8.mono B7.size)
      go_wp2_with fail
      go_meet
      exact B8
  case rest =>
    clear h4 B4 HQ
    go_wp2_with fail
    refine (DrawParityOf_any B m d ms _ (hB.below hcut)).mono ?_
    rintro e w5 ⟨R, k, c5, R', k', c5', rfl, ⟨xs, hx⟩, ⟨ys, hy⟩, hk, hk', b5⟩
    obtain ⟨p, pb, hq⟩ : ∃ p pb, m_ParityOf xs ys = (p, pb) := ⟨_, _, rfl⟩
    have HP := Lib.hid hq
    clear hq
    have B5 := hcut.trans (b5.mono hcut.size)
    go_wp2_with fail
    refine (impl_ParityOf R k c5 xs R' k' c5' ys p pb _ hx (by omega) hy (by omega) HP.out).mono ?_
    rintro e w6 ⟨rfl, b6⟩
    have hx6 := hx.below b6
    have hy6 := hy.below b6
    have B6 := B5.trans (b6.mono B5.size)
    clear hcut b5 b6 B5 hx hy
    go_wp2_with fail
    refine (spec_ParityOf R k c5 xs R' k' c5' ys p pb _ hx6 (by omega) hy6 (by omega) HP.out).mono ?_
    rintro e w7 ⟨rfl, b7⟩
    have hx7 := hx6.below b7
    have hy7 := hy6.below b7
    have B7 := B6.trans (b7.mono B6.size)
    clear b7 B6 hx6 hy6
    go_upto_if 118 with fail
    go_cut [] (fun wx => Below W.heap.size W wx)
    case first =>
      cases pb with
      | false =>
        go_wp2_with fail
        go_meet
        exact B7
      | true =>
        obtain ⟨ns, q, hp1, hp2, hp3, hp4, p0, p1, q0, q1⟩ := parity_law HP.out
        have P1 := Lib.hid hp1
        have P2 := Lib.hid hp2
        have P3 := Lib.hid hp3
        have P4 := Lib.hid hp4
        have hk64 : k' ≤ 64 := by have := (good_yes hp4).1; have := hy7.1; omega
        have HL := Lib.hid hy7.1
        clear hp1 hp2 hp3 hp4
        go_wp2_with fail
        refine (impl_NotBits R k c5 xs ns true _ hx7 (by omega) P1.out).mono ?_
        rintro e w8 ⟨R8, k8, c8, rfl, o8, l8, b8⟩
        have hy8 := hy7.below b8
        have B8 := B7.trans (b8.mono B7.size)
        clear hx7 hy7 B7 b8
        go_wp2_with fail
        refine (impl_ParityOf R8 k8 c8 ns R' k' c5' ys q true _ o8.has (by omega) hy8 (by omega) P2.out).mono ?_
        rintro e w9 ⟨rfl, b9⟩
        have hy9 := hy8.below b9
        have B9 := B8.trans (b9.mono B8.size)
        clear hy8 B8 b9 o8
        go_wp2_with fail
        refine (pSum_bits R' k' c5' ys _ hy9 hk64 (good_yes P4.out).2).mono ?_
        rintro e w10 ⟨v, rfl, HV, v0, v1, rfl⟩
        have hd : ((p + q) % 2 != v % 2) = false := by
          have h := P3.out
          rw [HL.out, ← HV.out] at h
          simp [h]
        go_wp2_with fail
        go_meet
        exact B9
    case rest =>
      clear hx7 hy7 B7 HP
      go_wp2_with fail
      refine (DrawBitsOf_any B m d ms _ (hB.below hcut)).mono ?_
      rintro e w8 ⟨x, y, rfl, hx, hy, b8⟩
      obtain ⟨us, ub, hq⟩ : ∃ us ub, m_BitsOf x y = (us, ub) := ⟨_, _, rfl⟩
      have HU := Lib.hid hq
      have HX := Lib.hid hx
      have HY := Lib.hid hy
      clear hq hx hy
      have B8 := hcut.trans (b8.mono hcut.size)
      go_wp2_with fail
      refine (impl_BitsOf x y us ub _ HX.out HY.out HU.out).mono ?_
      rintro e w9 ⟨R9, k9, c9, rfl, o9, l9, b9⟩
      have B9 := B8.trans (b9.mono B8.size)
      clear hcut b8 b9 B8
      go_wp2_with fail
      refine (spec_BitsOf x y us ub _ HX.out HY.out HU.out).mono ?_
      rintro e w10 ⟨R10, k10, c10, rfl, o10, l10, b10⟩
      have h10 := o9.has.below b10
      have B10 := B9.trans (b10.mono B9.size)
      clear b10 B9 o9
      go_wp2_with fail
      refine (sameInts_same R9 R10 k9 k10 c9 c10 us _ h10 o10 (by omega)).mono ?_
      rintro e w11 ⟨rfl, b11⟩
      have B11 := B10.trans (b11.mono B10.size)
      go_wp2_with fail
      go_ret
      exact ⟨rfl, B11⟩

end Go.Proofs.Ytdocbkocekamlaa.lawBitTexts
