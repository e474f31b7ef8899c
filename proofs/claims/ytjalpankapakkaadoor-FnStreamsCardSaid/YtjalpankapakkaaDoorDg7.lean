/- The program's OrderFrom. For slices of at most 16777216 elements; the table of first numbers as start-up lays it. -/
import Derived.Test.YtjalpankapakkaaDoorDg6
namespace Go.Proofs.YtjalpankapakkaaDoor
open Go.RowKit

set_option maxHeartbeats 2000000 in
theorem orderFrom_go (A : Option Addr) (n c : Nat) (zs : List Int) (q : Nat) (w : World) (h : Has w A n zs) (hn : n ≤ 16777216) (hT : Starts w) (hg : words 10 zs = true) (hq : q ≤ 40) :
    Calls Tryd.prog 11 #[.slice A n c, .int .i64 (q : Int)] w fun e w' => ∃ R c', e = .returned (.tuple #[.slice R q c', .bool true]) ∧ Own w' w.heap.size R q c' (permGo zs (q - 1) (ident q)) ∧ Below w.heap.size w w' := by
  have HG := Lib.hid hg
  clear hg
  go_enter Tryd.func11, Tryd.ntmps11
  go_wp2_with fail
  refine (areKeyWords_any A n c zs true _ h hn HG.out).mono ?_
  rintro e w' ⟨rfl, rfl⟩
  go_wp2_with (at_make; refine makeInts _ rfl _ rfl q rfl (by omega) ?_; intro w1 hf hb1)
  have hf := hf (vals (ident q))
  go_loopw [25] (fun i wr => ∃ k : Nat, k ≤ q ∧ i = .int .i64 k ∧ Filled wr w.heap.size 3 w.heap.size q (vals (ident q)) (fun j => j < k) ∧ Below w.heap.size w wr) (fun i _ => q - (intOf i).toNat)
  case atStart => exact ⟨0, Nat.zero_le _, rfl, hf, hb1⟩
  clear hf hb1
  case round =>
    obtain ⟨k, hk, rfl, hfk, hbk⟩ := hrel
    by_cases hlt : k < q
    · obtain ⟨v, hv⟩ := hfk.cell hlt
      have hfr := hfk.free k
      have k0 : (0 : Int) ≤ (k : Int) := by omega
      have k1 : (k : Int) < (q : Int) := by omega
      go_wp2
      go_roundw
      case rel =>
        refine ⟨k + 1, by omega, by go_num, ?_, hbk.setCell (Nat.le_refl _) _⟩
        exact hfk.put hlt (by rw [ident, mapTo_vals _ hlt]) (by intro j _ hj; omega)
      case measure => simp [intOf]; omega
    · obtain rfl : k = q := by omega
      have ho : Own wr w.heap.size (some ⟨w.heap.size, 0, none⟩) k k (ident k) := ⟨mapTo_length _ _, hfk.full (by rw [vals_length, ident, mapTo_length]) (by intro j hj; omega)⟩
      clear hfk
      go_wp2
      go_loopw [8] (fun iv w2 => ∃ (i : Int) (L : List Int), iv = .int .i64 i ∧ -1 ≤ i ∧ i < (k : Int) ∧ Own w2 w.heap.size (some ⟨w.heap.size, 0, none⟩) k k L ∧ Below w.heap.size w w2 ∧ Hid (permGo zs i.toNat L = permGo zs (k - 1) (ident k))) (fun iv _ => (intOf iv).toNat)
      case atStart => exact ⟨(k : Int) - 1, _, rfl, by omega, by omega, ho, hbk, by show _ = _; rw [show ((k : Int) - 1).toNat = k - 1 by omega]⟩
      clear ho hbk
      case round =>
        obtain ⟨i, L, rfl, i0, i1, ho, hb2, HF⟩ := hrel
        by_cases hi : 1 ≤ i
        · obtain ⟨i, rfl⟩ : ∃ j : Nat, i = (j : Int) := ⟨i.toNat, by omega⟩
          obtain ⟨D, κ, hD, D0, et, em, hκ, HK⟩ := ordAt zs i (by omega)
          have H12 : Hid (words 12 (zs ++ [(i : Int), (i : Int) + 1]) = true) := words_append HG.out (words_two (by omega) (by omega) (by omega) (by omega))
          have HD := Lib.hid hD
          have hB := belowNew wr (.cells #[.int .i64 (i : Int), .int .i64 ((i : Int) + 1)] 3)
          have s1 := hB.size
          have hT1 := (hT.below hb2).below hB
          have hA1 := (h.below hb2).below hB
          clear hD em
          go_wp2_with fail
          refine (digestOf_any A n c zs (some ⟨wr.heap.size, 0, none⟩) 2 2 [(i : Int), (i : Int) + 1] _ hA1 (litHas rfl rfl) hT1 H12.out).mono ?_
          rintro e w4 ⟨rfl, hb⟩
          rw [HD.out]
          have B4 := hB.trans (hb.mono s1)
          have ho4 := ho.below B4
          have b4 := hb2.trans (B4.mono hb2.size)
          clear hb ho hA1 hT1 hb2 B4 hB s1
          have hci := ho4.cellR (k := i) (by omega)
          have hck := ho4.cellR (k := κ) (by omega)
          obtain ⟨x, hx⟩ : ∃ x, L.getD i 0 = x := ⟨_, rfl⟩
          obtain ⟨y, hy⟩ : ∃ y, L.getD κ 0 = y := ⟨_, rfl⟩
          rw [hx] at hci
          rw [hy] at hck
          have HX := Lib.hid hx
          have HY := Lib.hid hy
          have fi := ho4.freeR i
          have fk := ho4.freeR κ
          have ho5 := ho4.putR i y
          have hu2 : (w4.setCell ⟨w.heap.size, i, none⟩ (.int .i64 y)).drew.cell? ⟨w.heap.size, κ, none⟩ = some (.int .i64 ((L.set i y).getD κ 0)) := ho5.cellR (by omega)
          have fk2 : (w4.setCell ⟨w.heap.size, i, none⟩ (.int .i64 y)).drew.frozen? ⟨w.heap.size, κ, none⟩ = false := ho5.freeR κ
          obtain ⟨u2, e2⟩ : ∃ u2, (L.set i y).getD κ 0 = u2 := ⟨_, rfl⟩
          rw [e2] at hu2
          have ho6 := ho5.putR κ x
          have a0 : (0 : Int) ≤ (i : Int) := by omega
          have a1 : (i : Int) < (k : Int) := by omega
          have a2 : (0 : Int) ≤ (κ : Int) := by omega
          have a3 : (κ : Int) < (k : Int) := by omega
          clear hx hy ho5 e2
          go_wp2_with fail
          go_region
          go_wp2
          go_roundw
          case rel =>
            refine ⟨(i : Int) - 1, (L.set i y).set κ x, rfl, by omega, by omega, ho6.drew, ((b4.setCell (Nat.le_refl _) _).setCell (Nat.le_refl _) _).drew, ?_⟩
            show _ = _
            rw [show ((i : Int) - 1).toNat = i - 1 by omega, ← HF.out, Int.toNat_natCast, permGo_step zs L (i := i) (by omega), ← HK.out, swapL, HX.out, HY.out]
          case measure => simp [intOf]; omega
        · have e0 := HF.out
          rw [show i.toNat = 0 by omega, permGo] at e0
          have HE := Lib.hid e0
          clear e0
          go_wp2
          go_ret2
          exact ⟨some ⟨w.heap.size, 0, none⟩, k, rfl, by rw [← HE.out]; exact ho, hb2⟩

set_option maxHeartbeats 1000000 in
theorem orderFrom_not (A : Option Addr) (n c : Nat) (zs : List Int) (x : Int) (w : World) (h : Has w A n zs) (hn : n ≤ 16777216) (hx : ¬ (words 10 zs = true ∧ 0 ≤ x ∧ x ≤ 40)) :
    Calls Tryd.prog 11 #[.slice A n c, .int .i64 x] w fun e w' => e = .returned (.tuple #[.slice none 0 0, .bool false]) ∧ w = w' := by
  cases hg : words 10 zs with
  | false =>
    have HG := Lib.hid hg
    clear hg hx
    go_enter Tryd.func11, Tryd.ntmps11
    go_wp2_with fail
    refine (areKeyWords_any A n c zs false _ h hn HG.out).mono ?_
    rintro e w' ⟨rfl, rfl⟩
    go_wp2
    go_ret2
    exact ⟨rfl, rfl⟩
  | true =>
    have HG := Lib.hid hg
    rcases (by omega : x < 0 ∨ (0 ≤ x ∧ 40 < x) ∨ (0 ≤ x ∧ x ≤ 40)) with h1 | ⟨h1, h2⟩ | ⟨h1, h2⟩
    · clear hg hx
      go_enter Tryd.func11, Tryd.ntmps11
      go_wp2_with fail
      refine (areKeyWords_any A n c zs true _ h hn HG.out).mono ?_
      rintro e w' ⟨rfl, rfl⟩
      go_wp2
      go_ret2
      exact ⟨rfl, rfl⟩
    · clear hg hx
      go_enter Tryd.func11, Tryd.ntmps11
      go_wp2_with fail
      refine (areKeyWords_any A n c zs true _ h hn HG.out).mono ?_
      rintro e w' ⟨rfl, rfl⟩
      go_wp2
      go_ret2
      exact ⟨rfl, rfl⟩
    · exact absurd ⟨hg, h1, h2⟩ hx

theorem impl_OrderFrom (A : Option Addr) (n c : Nat) (zs : List Int) (x : Int) (rs : List Int) (rb : Bool) (w : World) (h : Has w A n zs) (hn : n ≤ 16777216) (_hnil : NilOk A n c) (_hx : I64 x) (hT : Starts w) (hm : m_OrderFrom zs x = (rs, rb)) :
    Calls Tryd.prog 11 #[.slice A n c, .int .i64 x] w fun e w' => ∃ R m c', e = .returned (.tuple #[.slice R m c', .bool rb]) ∧ Own w' w.heap.size R m c' rs ∧ m ≤ 16777216 ∧ Below w.heap.size w w' := by
  by_cases hg : words 10 zs = true ∧ 0 ≤ x ∧ x ≤ 40
  · rw [m_OrderFrom, if_pos hg] at hm
    obtain ⟨q, rfl⟩ : ∃ q : Nat, x = (q : Int) := ⟨x.toNat, by omega⟩
    rw [Int.toNat_natCast] at hm
    obtain ⟨rfl, rfl⟩ := Prod.mk.inj hm
    refine (orderFrom_go A n c zs q w h hn hT hg.1 (by omega)).mono ?_
    rintro e w' ⟨R, c', rfl, ho, hb⟩
    exact ⟨R, q, c', rfl, ho, by omega, hb⟩
  · rw [m_OrderFrom, if_neg hg] at hm
    obtain ⟨rfl, rfl⟩ := Prod.mk.inj hm
    refine (orderFrom_not A n c zs x w h hn hg).mono ?_
    rintro e w' ⟨rfl, rfl⟩
    exact ⟨none, 0, 0, rfl, noList _⟩

end Go.Proofs.YtjalpankapakkaaDoor
