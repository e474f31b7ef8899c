/- The model's DependsOn. For every circuit of at most 1048576 gates and outs. -/
import Derived.Test.YtnelcbjegbchkaaSiG2
import Derived.Test.YtnelcbjegbchkaaCirG8
import Derived.Test.YtnelcbjegbchkaaBitI
namespace Go.Proofs.Ytnelcbjegbchkaa
open Go.RowKit
set_option maxRecDepth 100000

/-- What is put behind the i-th input and the first n numbers of inputs. -/
def depSet (C : Ci) (kk i n : Nat) (y : Int) : Prop := (∃ j : Nat, j < i ∧ y = (j : Int) ∧ depOn C kk j = true) ∨ (y = (i : Int) ∧ ∃ j, j < n ∧ flipAt C kk i j = true)
theorem depSet_skip {C : Ci} {kk i n : Nat} (h : flipAt C kk i n = false) (y : Int) : depSet C kk i n y ↔ depSet C kk i (n + 1) y := by
  unfold depSet
  refine or_congr Iff.rfl (and_congr Iff.rfl ⟨?_, ?_⟩)
  · rintro ⟨j, hj, e⟩; exact ⟨j, by omega, e⟩
  · rintro ⟨j, hj, e⟩
    rcases Nat.lt_or_ge j n with hl | hg
    · exact ⟨j, hl, e⟩
    · obtain rfl : j = n := by omega
      rw [h] at e; exact absurd e (by simp)
theorem depSet_put {C : Ci} {kk i n : Nat} (h : flipAt C kk i n = true) (y : Int) : (y = (i : Int) ∨ depSet C kk i n y) ↔ depSet C kk i (n + 1) y := by
  unfold depSet
  constructor
  · rintro (rfl | hl | ⟨rfl, j, hj, e⟩)
    · exact .inr ⟨rfl, n, by omega, h⟩
    · exact .inl hl
    · exact .inr ⟨rfl, j, by omega, e⟩
  · rintro (hl | ⟨rfl, j, hj, e⟩)
    · exact .inr (.inl hl)
    · exact .inl rfl
theorem depSet_next {C : Ci} {kk i : Nat} (y : Int) : depSet C kk i (rowsN C) y ↔ depSet C kk (i + 1) 0 y := by
  unfold depSet
  constructor
  · rintro (⟨j, hj, e1, e2⟩ | ⟨rfl, j, hj, e⟩)
    · exact .inl ⟨j, by omega, e1, e2⟩
    · refine .inl ⟨i, by omega, rfl, ?_⟩
      rw [depOn, List.any_eq_true]
      exact ⟨j, List.mem_range.2 hj, e⟩
  · rintro (⟨j, hj, rfl, e2⟩ | ⟨_, j, hj, _⟩)
    · rcases Nat.lt_or_ge j i with hl | hg
      · exact .inl ⟨j, hl, rfl, e2⟩
      · obtain rfl : j = i := by omega
        rw [depOn, List.any_eq_true] at e2
        obtain ⟨n, hn, e⟩ := e2
        exact .inr ⟨rfl, n, List.mem_range.1 hn, e⟩
    · omega
theorem depList {C : Ci} {kk p : Nat} {zs : List Int} (hs : zs.Pairwise (· < ·)) (hm : ∀ y, y ∈ zs ↔ depSet C kk p 0 y) : zs = ((List.range p).filter fun i => depOn C kk i).map fun (i : Nat) => (i : Int) := by
  refine risingEq hs ?_ fun y => ?_
  · rw [List.pairwise_map]
    exact ((List.pairwise_lt_range).filter _).imp (fun h => by omega)
  · rw [hm, List.mem_map]
    constructor
    · rintro (⟨j, hj, rfl, e⟩ | ⟨_, j, hj, _⟩)
      · exact ⟨j, List.mem_filter.2 ⟨List.mem_range.2 hj, e⟩, rfl⟩
      · omega
    · rintro ⟨i, hi, rfl⟩
      obtain ⟨h1, h2⟩ := List.mem_filter.1 hi
      exact .inl ⟨i, List.mem_range.1 h1, rfl, h2⟩
theorem flip_lt {C : Ci} {p N i n : Nat} (hN : rowsN C = N) (hp : C.ins.toNat = p) (hi : i < p) (hn : n < N) : n ^^^ 2 ^ i < N := by
  rw [rowsN, hp] at hN
  subst hN
  exact Nat.xor_lt_two_pow hn (Nat.pow_lt_pow_right (by omega) hi)

theorem xorFlip {n i : Nat} (hi : i ≤ 10) (hn : n < 1048576) : bits .xor .i64 (n : Int) (wrap64 ((2 : Int) ^ i)) = ((n ^^^ 2 ^ i : Nat) : Int) := by
  have h := pow2_ten hi
  obtain ⟨t, ht⟩ : ∃ t : Nat, 2 ^ i = t := ⟨_, rfl⟩
  have e : (2 : Int) ^ i = (t : Int) := by rw [← ht]; push_cast; rfl
  rw [ht]
  rw [e] at h ⊢
  have e2 : wrap64 (t : Int) = (t : Int) := by unfold wrap64; omega
  rw [e2]
  exact bitsXor hn (by omega)

set_option maxRecDepth 100000 in
set_option maxHeartbeats 1000000 in
theorem spec_DependsOn (v : Value) (C : Ci) (k : Int) (rs : List Int) (rb : Bool) (w : World) (h : HasC w v C) (hf : Fit C) (hk : I64 k) (hm : m_DependsOn C k = (rs, rb)) :
    Calls Try.prog 39 #[v, .int .i64 k] w fun e w' => ∃ R m c', e = .returned (.tuple #[.slice R m c', .bool rb]) ∧ Has w' R m rs ∧ m ≤ 16777216 ∧ Below w.heap.size w w' := by
  obtain ⟨G, n, c, O, q, d, rfl, _, hO, _, hqd, _, _⟩ := id h
  have HOL := Lib.hid hO.1
  have HM := Lib.hid hm
  have hq48 : q ≤ 1048576 := by have := hf.2.1; have := hO.1; omega
  have B1 := belowNew w (.cells #[.int .i64 C.in0, .int .i64 C.in1, .slice G n c, .slice O q d] 34)
  have p1 := Blk.new w #[.int .i64 C.in0, .int .i64 C.in1, .slice G n c, .slice O q d] 34
  have h1 := h.below B1
  obtain ⟨W1, hW1⟩ : ∃ W, W = w.alloc (.cells #[.int .i64 C.in0, .int .i64 C.in1, .slice G n c, .slice O q d] 34) := ⟨_, rfl⟩
  have s1 : W1.heap.size = w.heap.size + 1 := by rw [hW1]; simp
  rw [← hW1] at B1 p1 h1
  obtain ⟨t, ht⟩ : ∃ t, tiny C = t := ⟨_, rfl⟩
  have HG := Lib.hid (siSmall_any _ C t W1 h1 hf ht)
  have HT := Lib.hid ht
  obtain ⟨k0, k1, k2, k3⟩ := p1.four
  clear h hO hm ht
  cases t with
  | false =>
    have e := HM.out
    rw [m_DependsOn, if_neg (by simp [outAsk, HT.out])] at e
    obtain ⟨rfl, rfl⟩ := Prod.mk.inj e
    clear e
    go_enter Try.func39, Try.ntmps39
    go_wp2_with fail
    rw [← hW1]
    refine (HG.out).mono ?_
    rintro e w2 ⟨rfl, b2⟩
    go_wp2_with fail
    go_ret2
    exact ⟨none, 0, 0, rfl, Has.nil_, by omega, B1.trans (b2.mono B1.size)⟩
  | true =>
    obtain ⟨ok, hok⟩ : ∃ ok, outAsk C k = ok := ⟨_, rfl⟩
    have HOK := Lib.hid hok
    have HB : Hid (∀ W, Calls Try.prog 104 #[.int .i64 k, .int .i64 0, .int .i64 ((q : Int) - 1)] W fun e w' => e = .returned (.bool ok) ∧ W = w') := fun W => l1In_any k 0 ((q : Int) - 1) ok W (by
      rw [← HOK.out, outAsk, HT.out, HOL.out, Bool.true_and]
      congr 1
      rw [decide_eq_decide]
      omega)
    have hw1 : IntKind.i64.wrap ((q : Int) - 1) = (q : Int) - 1 := wrapIn (by omega) (by omega)
    clear hok
    go_enter Try.func39, Try.ntmps39
    go_wp2_with fail
    rw [← hW1]
    clear hW1
    refine (HG.out).mono ?_
    rintro e w2 ⟨rfl, b2⟩
    have p2 := p1.below' b2
    have h2 := h1.below b2
    have B2 := B1.trans (b2.mono B1.size)
    have hS2 : w.heap.size < w2.heap.size := by have := b2.size; omega
    clear k0 k1 k2 k3 p1 h1 B1 b2 HG s1
    obtain ⟨k0, k1, k2, k3⟩ := p2.four
    go_wp2_with fail
    refine ((HB.out _)).mono ?_
    rintro e w3 ⟨rfl, rfl⟩
    cases ok with
    | false =>
      have e := HM.out
      rw [m_DependsOn, if_neg (by simp [HOK.out])] at e
      obtain ⟨rfl, rfl⟩ := Prod.mk.inj e
      clear e
      go_wp2_with fail
      go_ret2
      exact ⟨none, 0, 0, rfl, Has.nil_, by omega, B2⟩
    | true =>
      obtain ⟨_, a0, a1⟩ := outAsk_yes HOK.out
      have e := HM.out
      rw [m_DependsOn, if_pos HOK.out] at e
      obtain ⟨e1, rfl⟩ := Prod.mk.inj e
      obtain ⟨kk, rfl⟩ : ∃ j : Nat, k = (j : Int) := ⟨k.toNat, by omega⟩
      have hkk : kk < C.os.length := by omega
      have HO := Lib.hid (siOut_any _ C kk w2 h2 HT.out hkk)
      obtain ⟨p, N, hp, hpp, p10, hN, hNI, N0, N1⟩ := tinyPow HT.out
      have HPP := Lib.hid hpp
      have HN := Lib.hid hN
      have hG := gd_yes (tiny_yes HT.out).1
      have HI : Hid (∀ W', Below w2.heap.size w2 W' → Calls Try.prog 80 #[.agg #[.int .i64 C.in0, .int .i64 C.in1, .slice G n c, .slice O q d]] W' fun e w' => e = .returned (.int .i64 (p : Int)) ∧ Below W'.heap.size W' w') := fun W' hb => by
        rw [← hp]; exact ciInputs_any _ C W' (h2.below hb) hG.a0 (by have := hG.a1; omega) hG.b0 (by have := hG.b1; omega)
      have HE : Hid (((List.range p).filter fun i => depOn C kk i).map (fun (i : Nat) => (i : Int)) = rs) := by show _ = _; rw [← hpp]; exact e1
      clear a0 a1 h2 e e1 hp hpp hN hNI hG
      go_wp2_with fail
      refine (HO.out).mono ?_
      rintro e w3 ⟨R0, m0, c0, rfl, o3, hm3, b3⟩
      obtain rfl : m0 = N := by rw [← o3.1, ← HN.out]; exact colTo_length C kk _
      have H3 := Lib.hid o3.has
      have P3 := Lib.hid (p2.below' b3)
      have B3 := Lib.hid (B2.trans (b3.mono B2.size))
      have HB3 := Lib.hid b3
      have hS3 : w.heap.size < w3.heap.size := Nat.lt_of_lt_of_le hS2 b3.size
      clear o3 HO k0 k1 k2 k3 p2 B2 b3
      go_wp2_with fail
      go_loopw [7, 8] (fun vv iv wr => ∃ (i : Nat) (R : Option Addr) (m c' : Nat), i ≤ p ∧ iv = .int .i64 i ∧ vv = .slice R m c' ∧ Rises wr R m c' (depSet C kk i 0) ∧ m ≤ 1024 * i ∧ Below w3.heap.size w3 wr) (fun _ iv _ => p - (intOf iv).toNat)
      case atStart => exact ⟨0, none, 0, 0, Nat.zero_le _, rfl, rfl, ⟨Nat.le_refl _, fun _ => ⟨rfl, rfl⟩, [], Has.nil_, List.Pairwise.nil, by intro y; simp [depSet]⟩, Nat.zero_le _, Below.refl _ _⟩
      case round =>
        obtain ⟨i, R, m, c', hi, rfl, rfl, hR, hmi, bk⟩ := hrel
        obtain ⟨k0, k1, k2, k3⟩ := (P3.out.below' bk).four
        have HIk := Lib.hid (HI.out wr (HB3.out.trans (bk.mono HB3.out.size)))
        go_wp2_with fail
        refine (HIk.out).mono ?_
        rintro e w4 ⟨rfl, b4⟩
        have bk4 := bk.trans (b4.mono bk.size)
        have HR4 := Lib.hid (hR.below b4)
        clear k0 k1 k2 k3 HIk hR b4 bk
        by_cases hlt : i < p
        · have i0 : (0 : Int) ≤ (i : Int) := by omega
          have i1 : (i : Int) < (p : Int) := by omega
          have HBK := Lib.hid bk4
          clear bk4
          go_wp2_with fail
          go_loopw [7, 34] (fun vv iv wx => ∃ (n : Nat) (R : Option Addr) (m c' : Nat), n ≤ m0 ∧ iv = .int .i64 n ∧ vv = .slice R m c' ∧ Rises wx R m c' (depSet C kk i n) ∧ m ≤ 1024 * i + n ∧ Below w4.heap.size w4 wx) (fun _ iv _ => m0 - (intOf iv).toNat)
          case atStart => exact ⟨0, R, m, c', Nat.zero_le _, rfl, rfl, HR4.out, by omega, Below.refl _ _⟩
          case round =>
            obtain ⟨n, R, m, c', hn, rfl, rfl, hR, hmn, bn⟩ := hrel
            by_cases hltn : n < m0
            · have hfl := flip_lt HN.out HPP.out hlt hltn
              have bw := HBK.out.trans (bn.mono HBK.out.size)
              obtain ⟨ad, x, rfl, hcx, HX⟩ := (H3.out.below bw).elem hltn
              obtain ⟨ad', y, e', hcy, HY⟩ := (H3.out.below bw).elem hfl
              obtain rfl := Option.some.inj e'
              have n0 : (0 : Int) ≤ (n : Int) := by omega
              have n1 : (n : Int) < (m0 : Int) := by omega
              have hx1 := xorFlip (n := n) (show i ≤ 10 by omega) (by omega)
              have hFL : flipAt C kk i n = decide (y ≠ x) := by rw [flipAt, HX.out, HY.out]
              obtain ⟨f, hf⟩ : ∃ f, n ^^^ 2 ^ i = f := ⟨_, rfl⟩
              rw [hf] at hx1 hcy hfl
              have f0 : (0 : Int) ≤ (f : Int) := by omega
              have f1 : (f : Int) < (m0 : Int) := by omega
              have HBN := Lib.hid bn
              have HRR := Lib.hid hR
              clear hf HX HY bw bn hR
              by_cases hxy : y = x
              · subst hxy
                have HF : Hid (flipAt C kk i n = false) := by show _ = _; rw [hFL]; simp
                clear hFL
                go_wp2_with fail
                clear hx1 hcx hcy
                go_roundw
                case rel => exact ⟨n + 1, R, m, c', by omega, by go_num, rfl, HRR.out.eq (depSet_skip HF.out), by omega, HBN.out⟩
                case measure => simp [intOf]; omega
              · have HF : Hid (flipAt C kk i n = true) := by show _ = _; rw [hFL]; simp [hxy]
                have HP := Lib.hid (putRises R m c' _ (i : Int) wr HRR.out (by omega))
                clear hFL
                go_wp2_with fail
                clear hx1 hcx hcy
                refine (HP.out).mono ?_
                rintro e w5 ⟨R5, m5, c5, rfl, hR5, hm5, b5⟩
                have HR5 := Lib.hid (hR5.eq (depSet_put HF.out))
                clear hR5
                go_wp2_with fail
                go_roundw
                case rel => exact ⟨n + 1, R5, m5, c5, by omega, by go_num, rfl, HR5.out, by omega, HBN.out.trans (b5.mono HBN.out.size)⟩
                case measure => simp [intOf]; omega
            · obtain rfl : n = m0 := by omega
              have HRR : Hid (Rises wr R m c' (depSet C kk (i + 1) 0)) := Lib.hid (hR.eq (fun y => by rw [← HN.out]; exact depSet_next y))
              have BB := Lib.hid (HBK.out.trans (bn.mono HBK.out.size))
              clear hR bn
              go_wp2_with fail
              go_roundw
              case rel => exact ⟨i + 1, R, m, c', by omega, by go_num, rfl, HRR.out, by omega, BB.out⟩
              case measure => simp [intOf]; omega
        · obtain rfl : i = p := by omega
          obtain ⟨q1, q2, zs, q3, q4, q5⟩ := HR4.out
          have HZ : Hid (zs = rs) := by show _ = _; rw [← HE.out]; exact depList q4 q5
          go_wp2_with fail
          go_ret2
          exact ⟨R, m, c', rfl, by rw [← HZ.out]; exact q3, by omega, B3.out.trans (bk4.mono B3.out.size)⟩

end Go.Proofs.Ytnelcbjegbchkaa
