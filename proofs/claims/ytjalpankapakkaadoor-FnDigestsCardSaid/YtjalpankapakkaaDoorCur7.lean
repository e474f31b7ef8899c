/- What the model's draws of chapter 3 yield: lists of at most 100 numbers, numbers within bounds, short texts; and of what was in memory they turn the reader alone. For every list of bytes. -/
import Derived.Test.YtjalpankapakkaaDoorCur2
import Derived.Test.YtjalpankapakkaaDoorGen1
namespace Go.Proofs.YtjalpankapakkaaDoor
open Go.RowKit

theorem Own.turned {w w' : World} {B g n c : Nat} {A : Option Addr} {zs : List Int} (h : Own w B A n c zs) (hg : w.grownBy w' (some g)) (hlt : g < B) : Own w' B A n c zs := ⟨h.1, ownStays h.2 hg hlt⟩

theorem amongLit (A : Option Addr) (g n c K : Nat) (bs : List Int) (vs : Array Value) (zs : List Int) (k : Nat) (w : World) (h : Cur w g A n c bs K) (hl : zs.length = k) (hv : vs.toList = vals zs) (hk : 0 < k) (hk2 : k ≤ 1000) (hK : K ≤ 1073741824) :
    Calls Tryd.prog 39 #[.pointer (some ⟨g, 0, none⟩), .slice (some ⟨w.heap.size, 0, none⟩) k k] (w.alloc (.cells vs 3)) fun e w' => ∃ z : Int, e = .returned (.int .i64 z) ∧ z ∈ zs ∧ Cur w' g A n c bs (K + 2) ∧ w.grownBy w' (some g) := by
  have hg := h.lt
  have hL := hasLit (w := w) (vs := vs) (zs := zs) (n := k) hl hv
  have hc := h.below (B := w.heap.size) hg ((Below.refl _ _).alloc (Nat.le_refl _) (.cells vs 3))
  refine (among_any A g n c K bs _ k k zs _ hc hL (fun _ ad e => by injection e with e; subst e; show w.heap.size ≠ g; omega) hk (by omega) hK).mono ?_
  rintro e w' ⟨z, he, hz, hc', hg'⟩
  exact ⟨z, he, hz, hc', (grownOf ((Below.refl _ _).alloc (Nat.le_refl _) (.cells vs 3)) (some g)).trans hg'⟩

set_option maxHeartbeats 2000000 in
theorem words_any (A : Option Addr) (g n c K : Nat) (bs : List Int) (w : World) (h : Cur w g A n c bs K) (hK : K ≤ 16777216) :
    Calls Tryd.prog 32 #[.pointer (some ⟨g, 0, none⟩)] w fun e w' => ∃ R k c', e = .returned (.slice R k c') ∧ ∃ zs, Own w' w.heap.size R k c' zs ∧ k ≤ 100 ∧ Cur w' g A n c bs (K + 100) ∧ w.grownBy w' (some g) := by
  have hgl := h.lt
  go_enter Tryd.func32, Tryd.ntmps32
  go_wp2_with fail
  refine (pick_any A g n c K bs 5 _ h (by omega) (by omega) (by omega)).mono ?_
  rintro e w1 ⟨x, rfl, x0, x1, hc1, hg1⟩
  go_wp2_with fail
  go_loopw [3, 4] (fun v i wr => ∃ (j : Int) (R : Option Addr) (m c' : Nat) (zs : List Int), i = .int .i64 j ∧ 0 ≤ j ∧ j ≤ 5 ∧ v = .slice R m c' ∧ Own wr w.heap.size R m c' zs ∧ (m : Int) ≤ 5 - j ∧ Cur wr g A n c bs (K + 22 - 4 * j.toNat) ∧ w.grownBy wr (some g)) (fun _ i _ => (intOf i).toNat)
  case atStart => exact ⟨x, none, 0, 0, [], rfl, by omega, by omega, rfl, Own.nil_ _ _, by simp; omega, hc1.more (by omega), hg1⟩
  clear hc1 hg1
  case round =>
    obtain ⟨j, R, m, c', zs, rfl, j0, j1, rfl, ho, hm, hcur, hgr⟩ := hrel
    have hsr := hgr.size
    by_cases hj : 0 < j
    · go_wp2_with fail
      refine (pick_any A g n c (K + 22 - 4 * j.toNat) bs 60000 _ hcur (by omega) (by omega) (by omega)).mono ?_
      rintro e w2 ⟨y, rfl, y0, y1, hc2, hg2⟩
      have hs2 := hg2.size
      go_wp2_with fail
      refine (amongLit A g n c (K + 22 - 4 * j.toNat + 2) bs _ [0, 1, 7, -1, 1000000000, -1000000000, y] 7 w2 hc2 rfl rfl (by omega) (by omega) (by omega)).mono ?_
      rintro e w3 ⟨z, rfl, hz, hc3, hg3⟩
      have hs3 := hg3.size
      have own3 := ((ho.turned hg2 hgl).turned hg3 hgl).2
      have S3 : w.heap.size ≤ w3.heap.size := by omega
      have G3 := (hgr.trans hg2).trans hg3
      clear hc2 hg2 hg3 ho hcur hgr
      go_wp2_with (at_builtin; refine appendInt w3 rfl (.tmp 11) (.tmp 17) rfl z w.heap.size _ m _ rfl rfl own3 (by omega) S3 ?_; intro v4 w4 own4 b4; obtain ⟨R4, c4, rfl, ho4⟩ := ownOf own4)
      go_roundw
      case rel => exact ⟨j - 1, R4, m + 1, c4, _, rfl, by omega, by omega, rfl, ho4, by omega, (hc3.below (by omega) b4).more (by omega), grownThen G3 b4⟩
      case measure => simp [intOf]; omega
    · go_wp2_with fail
      refine (pick_any A g n c (K + 22 - 4 * j.toNat) bs 24 _ hcur (by omega) (by omega) (by omega)).mono ?_
      rintro e w2 ⟨y, rfl, y0, y1, hc2, hg2⟩
      have hs2 := hg2.size
      have ho2 := ho.turned hg2 hgl
      have G2 := hgr.trans hg2
      clear hcur hgr hg2 ho
      by_cases c0 : y = 0
      · subst c0
        go_wp2_with fail
        refine (amongLit A g n c (K + 22 - 4 * j.toNat + 2) bs _ [1000000001, -1000000001] 2 w2 hc2 rfl rfl (by omega) (by omega) (by omega)).mono ?_
        rintro e w3 ⟨z, rfl, hz, hc3, hg3⟩
        have hs3 := hg3.size
        have own3 := (ho2.turned hg3 hgl).2
        have S3 : w.heap.size ≤ w3.heap.size := by omega
        have G3 := G2.trans hg3
        go_wp2_with (at_builtin; refine appendInt w3 rfl (.tmp 23) (.tmp 27) rfl z w.heap.size _ m _ rfl rfl own3 (by omega) S3 ?_; intro v4 w4 own4 b4; obtain ⟨R4, c4, rfl, ho4⟩ := ownOf own4)
        go_ret
        exact ⟨R4, m + 1, c4, rfl, _, ho4, by omega, (hc3.below (by omega) b4).more (by omega), grownThen G3 b4⟩
      · by_cases c1 : y = 1
        · subst c1
          go_wp2_with fail
          refine (pick_any A g n c (K + 22 - 4 * j.toNat + 2) bs 4 _ hc2 (by omega) (by omega) (by omega)).mono ?_
          rintro e w3 ⟨z, rfl, z0, z1, hc3, hg3⟩
          have hs3 := hg3.size
          obtain ⟨q, hq⟩ : ∃ q : Nat, 10 + z = (q : Int) := ⟨(10 + z).toNat, by omega⟩
          have q100 : q ≤ 100 := by omega
          have S3 : w.heap.size ≤ w3.heap.size := by omega
          have G3 := G2.trans hg3
          go_wp2_with (at_make; refine makeRow _ rfl _ rfl q rfl (by omega) ?_; intro w4 hrow hb4)
          go_ret
          exact ⟨_, q, q, rfl, _, hrow.own.mono S3, q100, (hc3.below (by omega) hb4).more (by omega), grownThen G3 (hb4.mono S3)⟩
        · go_wp2_with fail
          go_ret
          exact ⟨R, m, c', rfl, zs, ho2, by omega, hc2.more (by omega), G2⟩

/-- A list that came out of the reader; a list and a number; two lists. -/
def OneList (w w' : World) (e : Ending) : Prop := ∃ R k c zs, e = .returned (.slice R k c) ∧ Own w' w.heap.size R k c zs ∧ k ≤ 100 ∧ Below w.heap.size w w'
def OwnInt (w w' : World) (e : Ending) : Prop := ∃ R k c zs x, e = .returned (.tuple #[.slice R k c, .int .i64 x]) ∧ Own w' w.heap.size R k c zs ∧ k ≤ 100 ∧ I64 x ∧ Below w.heap.size w w'
def OwnOwn (w w' : World) (e : Ending) : Prop := ∃ R k c zs R' k' c' ys, e = .returned (.tuple #[.slice R k c, .slice R' k' c']) ∧ Own w' w.heap.size R k c zs ∧ k ≤ 100 ∧ Own w' w.heap.size R' k' c' ys ∧ k' ≤ 100 ∧ Below w.heap.size w w'
theorem i64Word {x : Int} (h0 : -2000000000 ≤ x) (h1 : x ≤ 2000000000) : I64 x := ⟨by omega, by omega⟩

set_option maxHeartbeats 1000000 in
theorem DrawDigestOf_any (A : Option Addr) (n c : Nat) (bs : List Int) (w : World) (h : HasB w A n bs) : Calls Tryd.prog 20 #[.slice A n c] w fun e w' => OneList w w' e := by
  have hc := curNew c h
  go_enter Tryd.func20, Tryd.ntmps20
  go_wp2_with fail
  refine (words_any A w.heap.size n c 0 bs _ hc (by omega)).mono ?_
  rintro e w1 ⟨R, k, c', rfl, zs, ho, hk, hc1, hg1⟩
  go_wp2_with fail
  go_ret
  exact ⟨R, k, c', zs, rfl, ho.mono (by simp), hk, belowCur hg1⟩

set_option maxHeartbeats 1000000 in
theorem DrawStreamXor_any (A : Option Addr) (n c : Nat) (bs : List Int) (w : World) (h : HasB w A n bs) : Calls Tryd.prog 6 #[.slice A n c] w fun e w' => OwnOwn w w' e := by
  have hc := curNew c h
  go_enter Tryd.func6, Tryd.ntmps6
  go_wp2_with fail
  refine (words_any A w.heap.size n c 0 bs _ hc (by omega)).mono ?_
  rintro e w1 ⟨R, k, c', rfl, zs, ho, hk, hc1, hg1⟩
  have hs1 := hg1.size
  have ho1 : Own w1 (w.heap.size + 1) R k c' zs := ho.mono (by simp)
  go_wp2_with fail
  refine (anyBits_any A w.heap.size n c (0 + 100) bs _ hc1 (by omega)).mono ?_
  rintro e w2 ⟨R2, k2, c2, rfl, ys, ho2, hk2, hc2, hg2⟩
  go_wp2_with fail
  go_ret2
  have hs1' : w.heap.size ≤ w1.heap.size := by simp at hs1; omega
  exact ⟨R, k, c', zs, R2, k2, c2, ys, rfl, (ho1.turned hg2 (by omega)).mono (by omega), hk, ho2.mono hs1', hk2, belowCur (hg1.trans hg2)⟩

set_option maxHeartbeats 1000000 in
theorem DrawOrderFrom_any (A : Option Addr) (n c : Nat) (bs : List Int) (w : World) (h : HasB w A n bs) : Calls Tryd.prog 10 #[.slice A n c] w fun e w' => OwnInt w w' e := by
  have hc := curNew c h
  go_enter Tryd.func10, Tryd.ntmps10
  go_wp2_with fail
  refine (words_any A w.heap.size n c 0 bs _ hc (by omega)).mono ?_
  rintro e w1 ⟨R, k, c', rfl, zs, ho, hk, hc1, hg1⟩
  have ho1 : Own w1 (w.heap.size + 1) R k c' zs := ho.mono (by simp)
  go_wp2_with fail
  refine (amongLit A w.heap.size n c (0 + 100) bs _ [0, 1, 2, 5, 40, 41, -1] 7 w1 hc1 rfl rfl (by omega) (by omega) (by omega)).mono ?_
  rintro e w2 ⟨z, rfl, hz, hc2, hg2⟩
  have hzb : -2000000000 ≤ z ∧ z ≤ 2000000000 := by simp at hz; omega
  go_wp2_with fail
  go_ret2
  exact ⟨R, k, c', zs, z, rfl, (ho1.turned hg2 (by omega)).mono (by omega), hk, i64Word hzb.1 hzb.2, belowCur (hg1.trans hg2)⟩

set_option maxHeartbeats 1000000 in
theorem DrawBitsFrom_any (A : Option Addr) (n c : Nat) (bs : List Int) (w : World) (h : HasB w A n bs) : Calls Tryd.prog 17 #[.slice A n c] w fun e w' => OwnInt w w' e := by
  have hc := curNew c h
  go_enter Tryd.func17, Tryd.ntmps17
  go_wp2_with fail
  refine (words_any A w.heap.size n c 0 bs _ hc (by omega)).mono ?_
  rintro e w1 ⟨R, k, c', rfl, zs, ho, hk, hc1, hg1⟩
  have ho1 : Own w1 (w.heap.size + 1) R k c' zs := ho.mono (by simp)
  go_wp2_with fail
  refine (amongLit A w.heap.size n c (0 + 100) bs _ [0, 1, 8, 64, 65, -1] 6 w1 hc1 rfl rfl (by omega) (by omega) (by omega)).mono ?_
  rintro e w2 ⟨z, rfl, hz, hc2, hg2⟩
  have hzb : -2000000000 ≤ z ∧ z ≤ 2000000000 := by simp at hz; omega
  go_wp2_with fail
  go_ret2
  exact ⟨R, k, c', zs, z, rfl, (ho1.turned hg2 (by omega)).mono (by omega), hk, i64Word hzb.1 hzb.2, belowCur (hg1.trans hg2)⟩

set_option maxHeartbeats 1000000 in
theorem DrawNumberFrom_any (A : Option Addr) (n c : Nat) (bs : List Int) (w : World) (h : HasB w A n bs) : Calls Tryd.prog 14 #[.slice A n c] w fun e w' => OwnInt w w' e := by
  have hc := curNew c h
  go_enter Tryd.func14, Tryd.ntmps14
  go_wp2_with fail
  refine (words_any A w.heap.size n c 0 bs _ hc (by omega)).mono ?_
  rintro e w1 ⟨R, k, c', rfl, zs, ho, hk, hc1, hg1⟩
  have ho1 : Own w1 (w.heap.size + 1) R k c' zs := ho.mono (by simp)
  go_wp2_with fail
  refine (pick_any A w.heap.size n c (0 + 100) bs 200 _ hc1 (by omega) (by omega) (by omega)).mono ?_
  rintro e w2 ⟨y, rfl, y0, y1, hc2, hg2⟩
  go_wp2_with fail
  refine (amongLit A w.heap.size n c (0 + 100 + 2) bs _ [1, 2, 10, 10000, 10001, 0, 1 + y] 7 w2 hc2 rfl rfl (by omega) (by omega) (by omega)).mono ?_
  rintro e w3 ⟨z, rfl, hz, hc3, hg3⟩
  have hzb : -2000000000 ≤ z ∧ z ≤ 2000000000 := by simp at hz; omega
  go_wp2_with fail
  go_ret2
  exact ⟨R, k, c', zs, z, rfl, ((ho1.turned hg2 (by omega)).turned hg3 (by omega)).mono (by omega), hk, i64Word hzb.1 hzb.2, belowCur ((hg1.trans hg2).trans hg3)⟩

set_option maxHeartbeats 1000000 in
theorem DrawCountDigests_any (A : Option Addr) (n c : Nat) (bs : List Int) (w : World) (h : HasB w A n bs) : Calls Tryd.prog 26 #[.slice A n c] w fun e w' => TwoInts w w' e := by
  have hc := curNew c h
  go_enter Tryd.func26, Tryd.ntmps26
  go_wp2_with fail
  refine (pick_any A w.heap.size n c 0 bs 60000 _ hc (by omega) (by omega) (by omega)).mono ?_
  rintro e w1 ⟨y, rfl, y0, y1, hc1, hg1⟩
  go_wp2_with fail
  refine (amongLit A w.heap.size n c (0 + 2) bs _ [0, 5, -1000000000, 1000000000, 999999950, y] 6 w1 hc1 rfl rfl (by omega) (by omega) (by omega)).mono ?_
  rintro e w2 ⟨z, rfl, hz, hc2, hg2⟩
  have hzb : -2000000000 ≤ z ∧ z ≤ 2000000000 := by simp at hz; omega
  go_wp2_with fail
  refine (amongLit A w.heap.size n c (0 + 2 + 2) bs _ [0, 1, 20, 60, 200, 201, -1] 7 w2 hc2 rfl rfl (by omega) (by omega) (by omega)).mono ?_
  rintro e w3 ⟨u, rfl, hu, hc3, hg3⟩
  have hub : -2000000000 ≤ u ∧ u ≤ 2000000000 := by simp at hu; omega
  go_wp2_with fail
  go_ret2
  exact ⟨z, u, rfl, i64Word hzb.1 hzb.2, i64Word hub.1 hub.2, belowCur ((hg1.trans hg2).trans hg3)⟩

set_option maxHeartbeats 1000000 in
theorem ofLit (A : Option Addr) (g n c K : Nat) (bs : List Int) (vs : Array Value) (k : Nat) (w : World) (h : Cur w g A n c bs K) (hv : ∀ j, j < k → ∃ s : ByteArray, vs[j]? = some (.string s) ∧ s.size ≤ 1000) (hk : 0 < k) (hk2 : k ≤ 1000) (hK : K ≤ 1073741824) :
    Calls Tryd.prog 56 #[.pointer (some ⟨g, 0, none⟩), .slice (some ⟨w.heap.size, 0, none⟩) k k] (w.alloc (.cells vs 9)) fun e w' => ∃ s : ByteArray, e = .returned (.string s) ∧ s.size ≤ 1000 ∧ Cur w' g A n c bs (K + 2) ∧ w.grownBy w' (some g) := by
  have hgl := h.lt
  have hc := h.below (B := w.heap.size) hgl ((Below.refl _ _).alloc (Nat.le_refl _) (.cells vs 9))
  have hcell : ∀ j, (w.alloc (.cells vs 9)).cell? ⟨w.heap.size, j, none⟩ = vs[j]? := fun j => by rw [World.cell?_alloc_at _ _ _ _ rfl]
  have HC := Lib.hid hcell
  have HV := Lib.hid hv
  clear hcell hv
  go_enter Tryd.func56, Tryd.ntmps56
  go_wp2_with fail
  refine (pick_any A g n c K bs (k : Int) _ hc hK (by omega) (by omega)).mono ?_
  rintro e w1 ⟨x, rfl, x0, x1, hc1, hg1⟩
  obtain ⟨j, rfl⟩ : ∃ j : Nat, x = (j : Int) := ⟨x.toNat, by omega⟩
  have hj : j < k := by omega
  obtain ⟨s, hs, hsz⟩ := HV.out j hj
  have hcs : w1.cell? ⟨w.heap.size, j, none⟩ = some (.string s) := by
    rw [World.cell?_of_block (hg1.block w.heap.size (by simp) (fun e => by injection e with e; omega)), HC.out, hs]
  clear hs
  go_wp2_with fail
  go_ret
  exact ⟨s, rfl, hsz, hc1, (grownOf ((Below.refl _ _).alloc (Nat.le_refl _) (.cells vs 9)) (some g)).trans hg1⟩

end Go.Proofs.YtjalpankapakkaaDoor
