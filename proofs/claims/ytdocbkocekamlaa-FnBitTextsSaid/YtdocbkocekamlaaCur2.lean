/- What the model's reader does with texts and pairs of numbers. -/
import Derived.Test.YtdocbkocekamlaaGenHelp
import Derived.Test.YtdocbkocekamlaaBits9
namespace Go.Proofs.Ytdocbkocekamlaa
open Go.RowKit

theorem convOne (W : World) (z : Int) : (convert 22 9 (.slice (some ⟨W.heap.size, 0, none⟩) 1 1)).run Try.prog (W.alloc (.cells #[.int .u8 z] 5)) = .ok (.string (strOfNums [z])) (W.alloc (.cells #[.int .u8 z] 5)) :=
  run_convert_bytes_arg (P := Try.prog) _ 22 5 Try.underlying22 Try.underlying5 W.heap.size 0 1 1 [z] rfl
    (fun i hi => by obtain rfl : i = 0 := by omega
                    simp) 9 Try.underlying9

set_option maxHeartbeats 1000000 in
theorem spoilt_any (A : Option Addr) (g n c K : Nat) (bs : List Int) (s wi : ByteArray) (w : World) (h : Cur w g A n c bs K) (hK : K ≤ 16777216) (hs : s.size ≤ 1000) (hw0 : 0 < wi.size) (hw1 : wi.size ≤ 100) :
    Calls Try.prog 48 #[.pointer (some ⟨g, 0, none⟩), .string s, .string wi] w fun e w' => ∃ t : ByteArray, e = .returned (.string t) ∧ t.size ≤ 1002 ∧ Cur w' g A n c bs (K + 20) ∧ w.grownBy w' (some g) := by
  have hgl := h.lt
  have hcv := convOne
  have hone : ∀ z : Int, (strOfNums [z]).size = 1 := fun z => by rw [strOfNums_size]; rfl
  go_enter Try.func48, Try.ntmps48
  go_wp2_with fail
  refine (pick_any A g n c K bs 2 _ h (by omega) (by omega) (by omega)).mono ?_
  rintro e w1 ⟨x, rfl, x0, x1, hc1, hg1⟩
  go_wp2_with fail
  go_loopw [1, 7] (fun v i wr => ∃ (t : ByteArray) (j : Int), v = .string t ∧ i = .int .i64 j ∧ 0 ≤ j ∧ j ≤ 2 ∧ (t.size : Int) ≤ 1002 - j ∧ Cur wr g A n c bs (K + 20 - 6 * j.toNat) ∧ w.grownBy wr (some g)) (fun _ i _ => (intOf i).toNat)
  case atStart => exact ⟨s, 1 + x, rfl, rfl, by omega, by omega, by omega, hc1.more (by omega), hg1⟩
  case round =>
    obtain ⟨t, j, rfl, rfl, j0, j1, ht, hcur, hgr⟩ := hrel
    by_cases hj : j = 0
    · subst hj
      go_wp2_with fail
      go_ret
      exact ⟨t, rfl, by omega, hcur.more (by omega), hgr⟩
    · by_cases ht0 : t.size = 0
      · have HT0 := Lib.hid ht0
        have ht1 : (t.size : Int) ≤ 0 := by omega
        clear ht0
        go_wp2_with fail
        go_ret
        exact ⟨t, rfl, by omega, hcur.more (by omega), hgr⟩
      · have ht1 : 0 < t.size := by omega
        go_wp2_with fail
        refine (pick_any A g n c (K + 20 - 6 * j.toNat) bs (t.size : Int) _ hcur (by omega) (by omega) (by omega)).mono ?_
        rintro e w2 ⟨y, rfl, y0, y1, hc2, hg2⟩
        obtain ⟨i, rfl⟩ : ∃ i : Nat, y = (i : Int) := ⟨y.toNat, by omega⟩
        have hi : i < t.size := by omega
        clear y0 y1
        go_wp2_with fail
        refine (pick_any A g n c (K + 20 - 6 * j.toNat + 2) bs (wi.size : Int) _ hc2 (by omega) (by omega) (by omega)).mono ?_
        rintro e w3 ⟨y, rfl, y0, y1, hc3, hg3⟩
        obtain ⟨p, rfl⟩ : ∃ p : Nat, y = (p : Int) := ⟨y.toNat, by omega⟩
        have hp : p < wi.size := by omega
        clear y0 y1
        go_wp2_with fail
        refine (pick_any A g n c (K + 20 - 6 * j.toNat + 2 + 2) bs 3 _ (hc3.below (B := w3.heap.size) hc3.lt ((Below.refl _ _).alloc (Nat.le_refl _) _)) (by omega) (by omega) (by omega)).mono ?_
        rintro e w4 ⟨y, rfl, y0, y1, hc4, hg4⟩
        have hgg := ((hgr.trans hg2).trans (grownThen hg3 ((Below.refl _ _).alloc (by have := hg3.size; omega) (.cells #[.int .u8 ((wi[p]'hp).toNat : Int)] 5)))).trans hg4
        have hu1 := hone ((wi[p]'hp).toNat : Int)
        generalize strOfNums [((wi[p]'hp).toNat : Int)] = u at *
        have hu : u.size ≤ 1 := by omega
        have i0 : (0 : Int) ≤ (i : Int) := by omega
        have i1 : (i : Int) ≤ (t.size : Int) := by omega
        have i2 : (i : Int) + 1 ≤ (t.size : Int) := by omega
        clear hu1 hone hcv
        have hrel2 : ∀ (v : ByteArray) (nq : Nat), (v.size : Int) ≤ (t.size : Int) + 1 → ∃ (t' : ByteArray) (j' : Int), Value.string v = .string t' ∧ Value.int .i64 (j - 1) = .int .i64 j' ∧ 0 ≤ j' ∧ j' ≤ 2 ∧ (t'.size : Int) ≤ 1002 - j' ∧ Cur (w4.drewN nq) g A n c bs (K + 20 - 6 * j'.toNat) ∧ w.grownBy (w4.drewN nq) (some g) :=
          fun v nq hv => ⟨v, j - 1, rfl, rfl, by omega, by omega, by omega, (show Cur w4 g A n c bs (K + 20 - 6 * (j - 1).toNat) from hc4.more (by omega)), ⟨hgg.os, hgg.tape, hgg.output, hgg.size, hgg.block⟩⟩
        have HR := Lib.hid hrel2
        clear hrel2 hc4 hgg hg4 hc3 hg3 hc2 hg2 hcur hgr
        by_cases c0 : y = 0
        · subst c0
          go_wp2_with fail
          go_quiet (fail)
          go_wp2_with fail
          go_roundw
          case rel => exact HR.out _ _ (by simp only [ByteArray.size_append, ByteArray.size_extract]; omega)
          case measure => simp [intOf]; omega
        · by_cases c1 : y = 1
          · subst c1
            go_wp2_with fail
            go_quiet (fail)
            go_wp2_with fail
            go_roundw
            case rel => exact HR.out _ _ (by simp only [ByteArray.size_append, ByteArray.size_extract]; omega)
            case measure => simp [intOf]; omega
          · go_wp2_with fail
            go_quiet (fail)
            go_wp2_with fail
            go_roundw
            case rel => exact HR.out _ _ (by simp only [ByteArray.size_append, ByteArray.size_extract]; omega)
            case measure => simp [intOf]; omega

/-- A text that came out of the reader. -/
def SomeText (w w' : World) (e : Ending) : Prop := ∃ t : ByteArray, e = .returned (.string t) ∧ t.size ≤ 1100 ∧ Below w.heap.size w w'

set_option maxHeartbeats 1000000 in
theorem DrawParseBits_any (A : Option Addr) (n c : Nat) (bs : List Int) (w : World) (h : HasB w A n bs) :
    Calls Try.prog 24 #[.slice A n c] w fun e w' => SomeText w w' e := by
  have hc := curNew c h
  go_enter Try.func24, Try.ntmps24
  go_wp2_with fail
  refine (pick_any A w.heap.size n c 0 bs 14 _ hc (by omega) (by omega) (by omega)).mono ?_
  rintro e w1 ⟨x, rfl, x0, x1, hc1, hg1⟩
  go_wp2_with fail
  refine (bits_any A w.heap.size n c (0 + 2) bs x _ hc1 (by omega) (by omega) (by omega)).mono ?_
  rintro e w2 ⟨R, k, c', rfl, zs, ho, hab, hk, hkm, hc2, hg2⟩
  go_wp2_with fail
  refine (one_any A w.heap.size n c (0 + 2 + 8192) bs 20 _ hc2 (by omega) (by omega) (by omega)).mono ?_
  rintro e w3 ⟨b, rfl, hc3, hg3⟩
  have hs1 := hg1.size
  have hs2 := hg2.size
  have hs3 := hg3.size
  simp only [World.size_alloc] at hs1
  have ho3 : Has w3 R k zs := (show Own w3 w1.heap.size R k c' zs from ⟨ho.1, ownStays ho.2 hg3 (by omega)⟩).has
  have hgg := (hg1.trans hg2).trans hg3
  clear hc hc1 hc2 hg1 hg2 hg3 ho
  have hsz : ∀ zs : List Int, (strOfNums (codes zs)).size = zs.length := fun zs => by rw [strOfNums_size, codes, mapTo_length]
  cases b with
  | true =>
    go_wp2_with fail
    refine (pick_any A w.heap.size n c (0 + 2 + 8192 + 2) bs 2 _ hc3 (by omega) (by omega) (by omega)).mono ?_
    rintro e w4 ⟨y, rfl, y0, y1, hc4, hg4⟩
    go_wp2_with fail
    refine (bits_any A w.heap.size n c (0 + 2 + 8192 + 2 + 2) bs (64 + y) _ hc4 (by omega) (by omega) (by omega)).mono ?_
    rintro e w5 ⟨R5, k5, c5, rfl, zs5, ho5, hab5, hk5, hkm5, hc5, hg5⟩
    have hs4 := hg4.size
    have hs5 := hg5.size
    have hg5' := (hgg.trans hg4).trans hg5
    go_wp2_with fail
    refine (btText_any R5 k5 c5 zs5 _ ho5.has (by omega) hab5).mono ?_
    rintro e w6 ⟨rfl, hb6⟩
    have hc6 := hc5.below (by omega) hb6
    have hg6 := grownThen hg5' (hb6.mono (by simp; omega))
    have hts : (strOfNums (codes zs5)).size ≤ 100 := by rw [hsz, ho5.1]; omega
    generalize strOfNums (codes zs5) = t at *
    clear hsz
    go_wp2_with fail
    refine (one_any A w.heap.size n c (0 + 2 + 8192 + 2 + 2 + 8192) bs 4 _ hc6 (by omega) (by omega) (by omega)).mono ?_
    rintro e w7 ⟨b, rfl, hc7, hg7⟩
    cases b with
    | true =>
      go_wp2_with fail
      refine (spoilt_any A w.heap.size n c (0 + 2 + 8192 + 2 + 2 + 8192 + 2) bs t _ _ hc7 (by omega) (by omega) (by decide) (by decide)).mono ?_
      rintro e w8 ⟨u, rfl, hu, hc8, hg8⟩
      go_wp2_with fail
      go_ret
      exact ⟨u, rfl, by omega, belowCur ((hg6.trans hg7).trans hg8)⟩
    | false =>
      go_wp2_with fail
      go_ret
      exact ⟨t, rfl, by omega, belowCur (hg6.trans hg7)⟩
  | false =>
    go_wp2_with fail
    refine (btText_any R k c' zs _ ho3 (by omega) hab).mono ?_
    rintro e w6 ⟨rfl, hb6⟩
    have hc6 := hc3.below (by omega) hb6
    have hg6 := grownThen hgg (hb6.mono (by simp; omega))
    have hts : (strOfNums (codes zs)).size ≤ 100 := by rw [hsz, ho3.1]; omega
    generalize strOfNums (codes zs) = t at *
    clear hsz
    go_wp2_with fail
    refine (one_any A w.heap.size n c (0 + 2 + 8192 + 2) bs 4 _ hc6 (by omega) (by omega) (by omega)).mono ?_
    rintro e w7 ⟨b, rfl, hc7, hg7⟩
    cases b with
    | true =>
      go_wp2_with fail
      refine (spoilt_any A w.heap.size n c (0 + 2 + 8192 + 2 + 2) bs t _ _ hc7 (by omega) (by omega) (by decide) (by decide)).mono ?_
      rintro e w8 ⟨u, rfl, hu, hc8, hg8⟩
      go_wp2_with fail
      go_ret
      exact ⟨u, rfl, by omega, belowCur ((hg6.trans hg7).trans hg8)⟩
    | false =>
      go_wp2_with fail
      go_ret
      exact ⟨t, rfl, by omega, belowCur (hg6.trans hg7)⟩

set_option maxHeartbeats 400000 in
theorem DrawParityOf_any (A : Option Addr) (n c : Nat) (bs : List Int) (w : World) (h : HasB w A n bs) :
    Calls Try.prog 29 #[.slice A n c] w fun e w' => TwoLists w w' e := by
  go_enter Try.func29, Try.ntmps29
  go_wp2_with fail
  refine (DrawXorBits_any A n c bs _ h).mono ?_
  rintro e w1 ⟨R, k, c2, R', k', c3, rfl, hx, hy, hk, hk', hb⟩
  go_wp2_with fail
  go_ret2
  exact ⟨R, k, c2, R', k', c3, rfl, hx, hy, hk, hk', hb⟩

/-- Two numbers that came out of the reader. -/
def TwoInts (w w' : World) (e : Ending) : Prop := ∃ x y : Int, e = .returned (.tuple #[.int .i64 x, .int .i64 y]) ∧ I64 x ∧ I64 y ∧ Below w.heap.size w w'

set_option maxHeartbeats 1000000 in
theorem DrawBitsOf_any (A : Option Addr) (n c : Nat) (bs : List Int) (w : World) (h : HasB w A n bs) :
    Calls Try.prog 32 #[.slice A n c] w fun e w' => TwoInts w w' e := by
  have hc := curNew c h
  go_enter Try.func32, Try.ntmps32
  go_wp2_with fail
  refine (pick_any A w.heap.size n c 0 bs 16 _ hc (by omega) (by omega) (by omega)).mono ?_
  rintro e w1 ⟨x, rfl, x0, x1, hc1, hg1⟩
  have hs1 := hg1.size
  simp only [World.size_alloc] at hs1
  have hL1 := hasLit (w := w1) (vs := #[.int .i64 0, .int .i64 1, .int .i64 4, .int .i64 8, .int .i64 16, .int .i64 17, .int .i64 (-1), .int .i64 x]) (zs := [0, 1, 4, 8, 16, 17, -1, x]) (n := 8) rfl rfl
  have hc1' := hc1.below (B := w1.heap.size) (by omega) ((Below.refl _ _).alloc (Nat.le_refl _) (.cells #[.int .i64 0, .int .i64 1, .int .i64 4, .int .i64 8, .int .i64 16, .int .i64 17, .int .i64 (-1), .int .i64 x] 3))
  go_wp2_with fail
  refine (among_any A w.heap.size n c (0 + 2) bs _ 8 8 _ _ hc1' hL1 (fun _ ad e => by injection e with e; subst e; show w1.heap.size ≠ w.heap.size; omega) (by omega) (by omega) (by omega)).mono ?_
  rintro e w2 ⟨y, rfl, hy, hc2, hg2⟩
  have hg2' := (grownThen hg1 ((Below.refl _ _).alloc (by simp; omega) _)).trans hg2
  have hs2 := hg2'.size
  simp only [World.size_alloc] at hs2
  have hyb : -1000000 ≤ y ∧ y ≤ 1000000 := by simp at hy; omega
  clear hc hc1 hL1 hc1' hg1 hg2
  go_wp2_with fail
  refine (pick_any A w.heap.size n c (0 + 2 + 2) bs 400 _ hc2 (by omega) (by omega) (by omega)).mono ?_
  rintro e w3 ⟨u, rfl, u0, u1, hc3, hg3⟩
  have hs3 := hg3.size
  have hL3 := hasLit (w := w3) (vs := #[.int .i64 0, .int .i64 1, .int .i64 5, .int .i64 255, .int .i64 65535, .int .i64 65536, .int .i64 (-1), .int .i64 u]) (zs := [0, 1, 5, 255, 65535, 65536, -1, u]) (n := 8) rfl rfl
  have hc3' := hc3.below (B := w3.heap.size) (by omega) ((Below.refl _ _).alloc (Nat.le_refl _) (.cells #[.int .i64 0, .int .i64 1, .int .i64 5, .int .i64 255, .int .i64 65535, .int .i64 65536, .int .i64 (-1), .int .i64 u] 3))
  go_wp2_with fail
  refine (among_any A w.heap.size n c (0 + 2 + 2 + 2) bs _ 8 8 _ _ hc3' hL3 (fun _ ad e => by injection e with e; subst e; show w3.heap.size ≠ w.heap.size; omega) (by omega) (by omega) (by omega)).mono ?_
  rintro e w4 ⟨v, rfl, hv, hc4, hg4⟩
  have hvb : -1000000 ≤ v ∧ v ≤ 1000000 := by simp at hv; omega
  go_wp2_with fail
  go_ret2
  exact ⟨v, y, rfl, ⟨by omega, by omega⟩, ⟨by omega, by omega⟩, belowCur ((grownThen (hg2'.trans hg3) ((Below.refl _ _).alloc (by simp; omega) _)).trans hg4)⟩

end Go.Proofs.Ytdocbkocekamlaa
