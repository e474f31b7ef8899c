/- The law of bits: for every two lists of bytes, numbers are read back from the drawn bits, exclusive-or undoes itself, and turns keep the weight. -/
import Derived.Test.YtdocbkocekamlaaGenHelp
import Derived.Test.YtdocbkocekamlaaBitsMath
import Derived.Deep.DeepCutAuto
namespace Go.Proofs.Ytdocbkocekamlaa.lawBits
open Go.ChangeShapes Go.WideShapes Go.ChangeAt Go.RowKit

set_option maxRecDepth 100000 in
set_option maxHeartbeats 4000000 in
theorem walk (A : Option Addr) (n c : Nat) (bs : List Int) (B : Option Addr) (m d : Nat) (ms : List Int) (W : World) (hA : HasB W A n bs) (hB : HasB W B m ms) (hn : n ≤ maxLen) (hm : m ≤ maxLen) :
    Calls Try.prog 3 #[.slice A n c, .slice B m d] W fun e W' => e = .returned (.bool true) ∧ Below W.heap.size W W' := by
  go_enter Try.func3, Try.ntmps3
  go_wp2_with fail
  refine (big_any A B n m c d _ hn hm).mono ?_
  rintro e w' ⟨b, rfl, rfl⟩
  cases b with
  | true =>
    go_wp2_with fail
    go_ret
    exact ⟨rfl, Below.refl _ _⟩
  | false =>
  go_wp2_with fail
  refine (DrawNumberOf_any A n c bs _ hA).mono ?_
  rintro e w1 ⟨R1, k1, c1, rfl, zs1, h1, hk1, b1⟩
  obtain ⟨ry, rb, hq⟩ : ∃ ry rb, m_NumberOf zs1 = (ry, rb) := ⟨_, _, rfl⟩
  have HQ := Lib.hid hq
  clear hq
  go_wp2_with fail
  refine (impl_NumberOf' R1 k1 c1 zs1 ry rb _ h1 (by omega) HQ.out).mono ?_
  rintro e w' ⟨rfl, rfl⟩
  go_wp2_with fail
  refine (spec_NumberOf R1 k1 c1 zs1 ry rb _ h1 (by omega) HQ.out).mono ?_
  rintro e w2 ⟨rfl, b2⟩
  have h2 := h1.below b2
  have B2 := b1.trans (b2.mono b1.size)
  obtain ⟨rg, hg⟩ : ∃ rg, good 64 zs1 = rg := ⟨_, rfl⟩
  have HG := Lib.hid hg
  clear hg
  go_wp2_with fail
  refine (implAreBits R1 k1 c1 zs1 rg _ h2 (by omega) HG.out).mono ?_
  rintro e w' ⟨rfl, rfl⟩
  go_wp2_with fail
  refine (specAreBits R1 k1 c1 zs1 rg _ h2 (by omega) HG.out).mono ?_
  rintro e w' ⟨rfl, rfl⟩
  clear h1 b1 b2
  go_upto_if 66 with fail
  go_cut [] (fun wx => Below W.heap.size W wx)
  case first =>
    cases rb with
    | false =>
      go_wp2_with fail
      go_meet
      exact B2
    | true =>
      have hny := number_yes HQ.out
      have HNY := Lib.hid hny.2
      have hy := good_yes hny.1
      have hbb := bits_back hny.1
      rw [← hny.2, h2.1] at hbb
      have HBB := Lib.hid hbb
      have hk16 : k1 ≤ 16 := by have := hy.1; have := h2.1; omega
      have p2 := pow16 hk16
      have hr := numTo_range zs1 zs1.length hy.2
      rw [← hny.2, h2.1] at hr
      obtain ⟨sy, sb, hs⟩ : ∃ sy sb, m_SignedOf zs1 = (sy, sb) := ⟨_, _, rfl⟩
      have HS := Lib.hid hs
      have HL := Lib.hid h2.1
      clear hny hy hbb hs
      go_wp2_with fail
      refine (impl_BitsOf ry (k1 : Int) zs1 true _ ⟨by omega, by omega⟩ ⟨by omega, by omega⟩ HBB.out).mono ?_
      rintro e w3 ⟨R3, k3, c3, rfl, o3, l3, b3⟩
      have h3 := h2.below b3
      have B3 := B2.trans (b3.mono B2.size)
      go_wp2_with fail
      refine (sameInts_same R3 R1 k3 k1 c3 c1 zs1 _ o3.has h3 (by omega)).mono ?_
      rintro e w4 ⟨rfl, b4⟩
      have h4 := h3.below b4
      have B4 := B3.trans (b4.mono B3.size)
      clear h2 h3 o3 b3 b4 B2 B3
      go_wp2_with fail
      refine (impl_SignedOf R1 k1 c1 zs1 sy sb _ h4 (by omega) HS.out).mono ?_
      rintro e w5 ⟨rfl, b5⟩
      have h5 := h4.below b5
      have B5 := B4.trans (b5.mono B4.size)
      go_wp2_with fail
      refine (spec_SignedOf R1 k1 c1 zs1 sy sb _ h5 (by omega) HS.out).mono ?_
      rintro e w6 ⟨rfl, b6⟩
      have B6 := B5.trans (b6.mono B5.size)
      clear h4 h5 b5 b6 B4 B5
      cases sb with
      | false =>
        go_wp2_with fail
        go_meet
        exact B6
      | true =>
        have hsm := signed_yes HS.out
        rw [HL.out, ← HL.out, ← HNY.out, HL.out] at hsm
        obtain ⟨hs1, hs2, hs3⟩ := hsm
        have HS1 := Lib.hid hs1
        clear hs1
        go_wp2_with fail
        refine (pMod_any sy (2 ^ k1) ry _ (by omega) (by omega) (by omega) (by omega) HS1.out).mono ?_
        rintro e w' ⟨rfl, rfl⟩
        go_wp2_with fail
        go_meet
        exact B6
  case rest =>
    clear B2 h2
    go_wp2_with fail
    refine (DrawXorBits_any B m d ms _ (hB.below hcut)).mono ?_
    rintro e w3 ⟨R, k, c2, R', k', c3, rfl, ⟨xs, hx⟩, ⟨ys, hy⟩, hk, hk', b3⟩
    obtain ⟨rs, xb, hq⟩ : ∃ rs xb, m_XorBits xs ys = (rs, xb) := ⟨_, _, rfl⟩
    have HX := Lib.hid hq
    clear hq HQ HG
    have B3 := hcut.trans (b3.mono hcut.size)
    go_wp2_with fail
    refine (impl_XorBits R k c2 xs R' k' c3 ys rs xb _ hx (by omega) hy (by omega) HX.out).mono ?_
    rintro e w4 ⟨R4, k4, c4, rfl, o4, l4, b4⟩
    have hx4 := hx.below b4
    have hy4 := hy.below b4
    have B4 := B3.trans (b4.mono B3.size)
    clear hcut b3 B3 b4 hx hy
    go_wp2_with fail
    refine (spec_XorBits R k c2 xs R' k' c3 ys rs xb _ hx4 (by omega) hy4 (by omega) HX.out).mono ?_
    rintro e w5 ⟨R5, k5, c5, rfl, o5, l5, b5⟩
    have hx5 := hx4.below b5
    have hy5 := hy4.below b5
    have o45 := o4.has.below b5
    have B5 := B4.trans (b5.mono B4.size)
    clear b5 B4 hx4 hy4 o4
    go_wp2_with fail
    refine (sameInts_same R4 R5 k4 k5 c4 c5 rs _ o45 o5 (by omega)).mono ?_
    rintro e w6 ⟨rfl, b6⟩
    have hx6 := hx5.below b6
    have hy6 := hy5.below b6
    have o46 := o45.below b6
    have B6 := B5.trans (b6.mono B5.size)
    clear b6 B5 hx5 hy5 o45 o5
    go_upto_if 139 with fail
    go_cut [] (fun wx => Below W.heap.size W wx)
    case first =>
      cases xb with
      | false =>
        go_wp2_with fail
        go_meet
        exact B6
      | true =>
        go_wp2_with fail
        refine (impl_XorBits R4 k4 c4 rs R' k' c3 ys xs true _ o46 (by omega) hy6 (by omega) (xor_yes HX.out)).mono ?_
        rintro e w7 ⟨R7, k7, c7, rfl, o7, l7, b7⟩
        have hx7 := hx6.below b7
        have B7 := B6.trans (b7.mono B6.size)
        go_wp2_with fail
        refine (sameInts_same R7 R k7 k c7 c2 xs _ o7.has hx7 (by omega)).mono ?_
        rintro e w8 ⟨rfl, b8⟩
        have B8 := B7.trans (b8.mono B7.size)
        go_wp2_with fail
        go_meet
        exact B8
    case rest =>
      clear hx6 hy6 o46 B6 HX
      go_wp2_with fail
      refine (DrawTurnBits_any B m d ms _ (hB.below hcut)).mono ?_
      rintro e w7 ⟨T, t, ct, q, rfl, ⟨zs, hz⟩, ht, q0, q1, b7⟩
      obtain ⟨us, ub, hq⟩ : ∃ us ub, m_TurnBits zs q = (us, ub) := ⟨_, _, rfl⟩
      have HT := Lib.hid hq
      clear hq
      have B7 := hcut.trans (b7.mono hcut.size)
      go_wp2_with fail
      refine (impl_TurnBits T t ct zs q us ub _ hz (by omega) ⟨by omega, by omega⟩ HT.out).mono ?_
      rintro e w8 ⟨R8, k8, c8, rfl, o8, l8, b8⟩
      have hz8 := hz.below b8
      have B8 := B7.trans (b8.mono B7.size)
      clear hcut b7 B7 b8 hz
      go_wp2_with fail
      refine (spec_TurnBits T t ct zs q us ub _ hz8 (by omega) ⟨by omega, by omega⟩ HT.out).mono ?_
      rintro e w9 ⟨R9, k9, c9, rfl, o9, l9, b9⟩
      have hz9 := hz8.below b9
      have o89 := o8.has.below b9
      have B9 := B8.trans (b9.mono B8.size)
      clear b9 B8 hz8 o8
      go_wp2_with fail
      refine (sameInts_same R8 R9 k8 k9 c8 c9 us _ o89 o9 (by omega)).mono ?_
      rintro e w10 ⟨rfl, b10⟩
      have hz10 := hz9.below b10
      have o10 := o89.below b10
      have B10 := B9.trans (b10.mono B9.size)
      clear b10 B9 hz9 o89 o9
      cases ub with
      | false =>
        go_wp2_with fail
        go_ret
        exact ⟨rfl, B10⟩
      | true =>
        have hty := turn_yes HT.out
        obtain ⟨ht1, ht2, ht3, ht4⟩ := hty
        obtain ⟨v, hv⟩ : ∃ v, v = sumTo zs zs.length := ⟨_, rfl⟩
        rw [← hv] at ht3 ht4
        rw [hz10.1] at hv
        have HV := Lib.hid hv
        have H1 := Lib.hid ht1
        have H2 := Lib.hid ht2
        have H3 := Lib.hid ht3
        have H4 := Lib.hid ht4
        have ht64 : t ≤ 64 := by have := (good_yes ht2).1; have := hz10.1; omega
        clear ht1 ht2 ht3 ht4 hv
        go_wp2_with fail
        refine (impl_WeightOf T t ct zs v true _ hz10 (by omega) H3.out).mono ?_
        rintro e w11 ⟨rfl, b11⟩
        have hz11 := hz10.below b11
        have o11 := o10.below b11
        have B11 := B10.trans (b11.mono B10.size)
        clear b11 B10 hz10 o10
        go_wp2_with fail
        refine (impl_WeightOf R8 k8 c8 us v true _ o11 (by omega) H4.out).mono ?_
        rintro e w12 ⟨rfl, b12⟩
        have hz12 := hz11.below b12
        have o12 := o11.below b12
        have B12 := B11.trans (b12.mono B11.size)
        clear b12 B11 hz11 o11
        go_wp2_with fail
        refine (impl_TurnBits R8 k8 c8 us (-q) zs true _ o12 (by omega) ⟨by omega, by omega⟩ H1.out).mono ?_
        rintro e w13 ⟨R13, k13, c13, rfl, o13, l13, b13⟩
        have hz13 := hz12.below b13
        have B13 := B12.trans (b13.mono B12.size)
        clear b13 B12 hz12 o12
        go_wp2_with fail
        refine (pSum_bits T t ct zs _ hz13 ht64 (good_yes H2.out).2).mono ?_
        rintro e w14 ⟨v', rfl, HV', v0, v1, rfl⟩
        obtain rfl : v' = v := by rw [HV'.out, HV.out]
        go_wp2_with fail
        refine (sameInts_same R13 T k13 t c13 ct zs _ o13.has hz13 (by omega)).mono ?_
        rintro e w15 ⟨rfl, b15⟩
        have B15 := B13.trans (b15.mono B13.size)
        go_wp2_with fail
        go_ret
        exact ⟨rfl, B15⟩

end Go.Proofs.Ytdocbkocekamlaa.lawBits
