/- What the helpers of the exact laws do with strings and lines of programs: their size, a copy, a comparison. For lists of at most 1048576 elements and strings of at most 1048576 bytes. -/
import Derived.Test.YtcbofogmfelpkaaDoorLn1
import Derived.StillTailTactics
import Derived.Deep.RegionHeld3
namespace Go.Proofs.YtcbofogmfelpkaaDoor
open Go Go.RowKit
set_option maxRecDepth 100000

/-- A line whose strings, lists and numbers are those of a machine. -/
structure BigL (x : Ln) : Prop where
  name : x.name.size ≤ maxLen
  op : x.op.size ≤ maxLen
  plen : x.parts.length ≤ maxLen
  part : ∀ j, j < x.parts.length → (wordAt x.parts j).size ≤ maxLen
  k64 : I64 x.kind
  p64 : I64 x.party
  w64 : I64 x.width
  v64 : I64 x.value
/-- A line that the helpers take. -/
structure FitL (x : Ln) : Prop where
  name : x.name.size ≤ 1048576
  op : x.op.size ≤ 1048576
  plen : x.parts.length ≤ 1048576
  part : ∀ j, j < x.parts.length → (wordAt x.parts j).size ≤ 1048576
  k64 : I64 x.kind
  p64 : I64 x.party
  w64 : I64 x.width
  v64 : I64 x.value

set_option maxHeartbeats 1000000 in
theorem szStringS_any (A : Option Addr) (n c : Nat) (ts : List ByteArray) (x : Int) (w : World) (h : HasS w A n ts) (hx0 : 0 ≤ x) (hx : x ≤ 1048576) (hn : n ≤ maxLen) (hz : ∀ j, j < n → (wordAt ts j).size ≤ maxLen) :
    Calls Tryd.prog 73 #[.slice A n c, .int .i64 x] w fun e w' => ∃ l, e = .returned (.int .i64 l) ∧ -1 ≤ l ∧ l ≤ x ∧ Hid (0 ≤ l → l + (n : Int) ≤ x ∧ ∀ j, j < n → (wordAt ts j).size ≤ 1048576) ∧ w = w' := by
  unfold maxLen at hn hz
  have hw : IntKind.i64.wrap (x - (n : Int)) = x - n := wrapIn (by omega) (by omega)
  have HZ := Lib.hid hz
  have HH := Lib.hid h
  clear hz h
  by_cases h : x - n < 0
  · go_enter Tryd.func73, Tryd.ntmps73
    go_wp2_with fail
    go_ret
    exact ⟨-1, rfl, by omega, by omega, fun h => by omega, rfl⟩
  · have h0 : (0 : Int) ≤ x - n := by omega
    have hy1 : x - (n : Int) ≤ x := by omega
    have h1 : (n : Int) ≤ x := by omega
    have HA0 : Hid (∀ j, j < 0 → (wordAt ts j).size ≤ 1048576) := fun j hj => by omega
    go_enter Tryd.func73, Tryd.ntmps73
    go_wp2_with fail
    go_loop [1, 5] (fun q i => ∃ (k : Nat) (y : Int), k ≤ n ∧ i = .int .i64 k ∧ q = .int .i64 y ∧ 0 ≤ y ∧ y ≤ x - (n : Int) ∧ Hid (∀ j, j < k → (wordAt ts j).size ≤ 1048576)) (fun _ i => n - (intOf i).toNat)
    case atStart => exact ⟨0, _, Nat.zero_le _, rfl, rfl, h0, Int.le_refl _, HA0⟩
    case round =>
      obtain ⟨k, y, hk, rfl, rfl, hya, hyb, HA⟩ := hrel
      by_cases hlt : k < n
      · obtain ⟨ad, rfl, hc⟩ := HH.out.elem hlt
        have hs := HZ.out k hlt
        obtain ⟨t, ht⟩ : ∃ t, wordAt ts k = t := ⟨_, rfl⟩
        rw [ht] at hc hs
        have HT := Lib.hid ht
        have k0 : (0 : Int) ≤ (k : Int) := by omega
        have k1 : (k : Int) < (n : Int) := by omega
        have hw2 : IntKind.i64.wrap (y - (t.size : Int)) = y - t.size := wrapIn (by omega) (by omega)
        clear ht
        by_cases h2 : y - (t.size : Int) < 0
        · go_wp2_with fail
          go_ret
          exact ⟨-1, rfl, by omega, by omega, fun h => by omega, rfl⟩
        · have HA2 : Hid (∀ j, j < k + 1 → (wordAt ts j).size ≤ 1048576) := fun j hj => by
            by_cases e : j < k
            · exact HA.out j e
            · obtain rfl : j = k := by omega
              rw [HT.out]; omega
          go_wp2_with fail
          go_round
          case rel => exact ⟨k + 1, _, by omega, by go_num, rfl, by omega, by omega, HA2⟩
          case measure => simp [intOf]; omega
      · obtain rfl : k = n := by omega
        go_wp2_with fail
        go_ret
        exact ⟨y, rfl, by omega, by omega, fun _ => ⟨by omega, HA.out⟩, rfl⟩

set_option maxHeartbeats 1000000 in
theorem szLine_any (x : Ln) (P : Option Addr) (m d : Nat) (l : Int) (w : World) (h : HasS w P m x.parts) (hB : BigL x) (hl0 : 0 ≤ l) (hl : l ≤ 1048576) :
    Calls Tryd.prog 42 #[.agg #[.int .i64 x.kind, .string x.name, .string x.op, .slice P m d, .int .i64 x.party, .int .i64 x.width, .int .i64 x.value], .int .i64 l] w fun e w' => ∃ r, e = .returned (.int .i64 r) ∧ -1 ≤ r ∧ r ≤ l ∧ Hid (0 ≤ r → FitL x ∧ r + (x.parts.length : Int) ≤ l) ∧ Below w.heap.size w w' := by
  obtain ⟨kd, nm, o, ps, py, wd, vl⟩ := x
  have h1 := hB.name
  have h2 := hB.op
  have hm : ps.length = m := h.1
  have hn := hB.plen
  have hz := hB.part
  have HB := Lib.hid hB
  simp only at h1 h2 hm hn hz h ⊢
  have hm' : m ≤ maxLen := by rw [← hm]; exact hn
  have hz' : ∀ j, j < m → (wordAt ps j).size ≤ maxLen := by rw [← hm]; exact hz
  unfold maxLen at h1 h2
  have B1 := belowNew w (.cells #[.int .i64 kd, .string nm, .string o, .slice P m d, .int .i64 py, .int .i64 wd, .int .i64 vl] 52)
  have hw1 : IntKind.i64.wrap (l - (nm.size : Int)) = l - nm.size := wrapIn (by omega) (by omega)
  have HH := Lib.hid h
  have HM := Lib.hid hm
  have HM2 := Lib.hid hm'
  have HZ := Lib.hid hz'
  clear hB hn hz hm h hm' hz'
  by_cases c1 : l - (nm.size : Int) < 0
  · go_enter Tryd.func42, Tryd.ntmps42
    go_wp2_with fail
    go_ret
    exact ⟨-1, rfl, by omega, by omega, fun h => by omega, B1⟩
  · have l1a : (nm.size : Int) ≤ l := by omega
    have hw2 : IntKind.i64.wrap (l - (nm.size : Int) - (o.size : Int)) = l - nm.size - o.size := wrapIn (by omega) (by omega)
    by_cases c2 : l - (nm.size : Int) - (o.size : Int) < 0
    · go_enter Tryd.func42, Tryd.ntmps42
      go_wp2_with fail
      go_ret
      exact ⟨-1, rfl, by omega, by omega, fun h => by omega, B1⟩
    · have l2b : (0 : Int) ≤ l - nm.size - o.size := by omega
      have l2c : l - (nm.size : Int) - o.size ≤ 1048576 := by omega
      have HS := Lib.hid (fun W hs => szStringS_any P m d ps (l - nm.size - o.size) W hs l2b l2c HM2.out HZ.out)
      go_enter Tryd.func42, Tryd.ntmps42
      go_wp2_with fail
      refine (HS.out _ (HH.out.below B1)).mono ?_
      rintro e w1 ⟨r, rfl, r1, r2, HR, rfl⟩
      by_cases c3 : r < 0
      · go_wp2_with fail
        go_ret
        exact ⟨-1, rfl, by omega, by omega, fun h => by omega, B1⟩
      · go_wp2_with fail
        go_ret
        refine ⟨r, rfl, by omega, by omega, fun _ => ?_, B1⟩
        have hb := HB.out
        obtain ⟨q1, q2⟩ := HR.out (by omega)
        exact ⟨⟨by show nm.size ≤ _; omega, by show o.size ≤ _; omega, by have := HM.out; show ps.length ≤ _; omega, fun j hj => q2 j (by have := HM.out; have : j < ps.length := hj; omega), hb.k64, hb.p64, hb.w64, hb.v64⟩, by have := HM.out; show r + (ps.length : Int) ≤ l; omega⟩

/-- How many parts the first k lines have. -/
def partsTo (ls : List Ln) : Nat → Nat
  | 0 => 0
  | k + 1 => partsTo ls k + (lnAt ls k).parts.length

set_option maxHeartbeats 1000000 in
theorem szLineS_any (A : Option Addr) (n c : Nat) (ls : List Ln) (x : Int) (w : World) (h : HasL w A n ls) (hx0 : 0 ≤ x) (hx : x ≤ 1048576) (hn : n ≤ maxLen) (hz : ∀ j, j < n → BigL (lnAt ls j)) :
    Calls Tryd.prog 12 #[.slice A n c, .int .i64 x] w fun e w' => ∃ l, e = .returned (.int .i64 l) ∧ -1 ≤ l ∧ l ≤ x ∧ Hid (0 ≤ l → n + partsTo ls n ≤ 1048576 ∧ ∀ j, j < n → FitL (lnAt ls j)) ∧ Below w.heap.size w w' := by
  unfold maxLen at hn
  have hw : IntKind.i64.wrap (x - (n : Int)) = x - n := wrapIn (by omega) (by omega)
  have HZ := Lib.hid hz
  have HH := Lib.hid h
  have HB0 := Lib.hid (Below.refl w.heap.size w)
  clear hz h
  by_cases h : x - n < 0
  · go_enter Tryd.func12, Tryd.ntmps12
    go_wp2_with fail
    go_ret
    exact ⟨-1, rfl, by omega, by omega, fun h => by omega, HB0.out⟩
  · have h0 : (0 : Int) ≤ x - n := by omega
    have hy1 : x - (n : Int) ≤ x := by omega
    have h1 : (n : Int) ≤ x := by omega
    have HA0 : Hid (x - (n : Int) + (n : Int) + (partsTo ls 0 : Int) ≤ x ∧ ∀ j, j < 0 → FitL (lnAt ls j)) := ⟨by simp [partsTo], fun j hj => by omega⟩
    go_enter Tryd.func12, Tryd.ntmps12
    go_wp2_with fail
    go_loopw [1, 5] (fun q i wr => ∃ (k : Nat) (y : Int), k ≤ n ∧ i = .int .i64 k ∧ q = .int .i64 y ∧ 0 ≤ y ∧ y ≤ x ∧ Hid (y + (n : Int) + (partsTo ls k : Int) ≤ x ∧ ∀ j, j < k → FitL (lnAt ls j)) ∧ Below w.heap.size w wr) (fun _ i _ => n - (intOf i).toNat)
    case atStart => exact ⟨0, _, Nat.zero_le _, rfl, rfl, h0, hy1, HA0, HB0.out⟩
    case round =>
      obtain ⟨k, y, hk, rfl, rfl, hya, hyb, HA, bk⟩ := hrel
      by_cases hlt : k < n
      · obtain ⟨ad, t, P, m, d, rfl, hc, hp, _, _, HT⟩ := (HH.out.below bk).elem hlt
        have hb := HZ.out k hlt
        rw [HT.out] at hb
        obtain ⟨c0, c1, c2, c3, c4, c5, c6⟩ := hc
        have k0 : (0 : Int) ≤ (k : Int) := by omega
        have k1 : (k : Int) < (n : Int) := by omega
        have HS := Lib.hid (szLine_any t P m d y wr hp hb hya (by omega))
        clear hp hb
        go_wp2_with fail
        refine (HS.out).mono ?_
        rintro e w2 ⟨r, rfl, r1, r2, HR, b2⟩
        have B2 := bk.trans (b2.mono bk.size)
        clear HS c0 c1 c2 c3 c4 c5 c6
        by_cases h2 : r < 0
        · go_wp2_with fail
          go_ret
          exact ⟨-1, rfl, by omega, by omega, fun h => by omega, B2⟩
        · have HA2 : Hid (r + (n : Int) + (partsTo ls (k + 1) : Int) ≤ x ∧ ∀ j, j < k + 1 → FitL (lnAt ls j)) := ⟨by
            have q1 := HA.out.1
            have q2 := (HR.out (by omega)).2
            rw [partsTo, HT.out]
            omega, fun j hj => by
            by_cases e : j < k
            · exact HA.out.2 j e
            · obtain rfl : j = k := by omega
              rw [HT.out]; exact (HR.out (by omega)).1⟩
          go_wp2_with fail
          go_roundw
          case rel => exact ⟨k + 1, r, by omega, by go_num, rfl, by omega, by omega, HA2, B2⟩
          case measure => simp [intOf]; omega
      · obtain rfl : k = n := by omega
        go_wp2_with fail
        go_ret
        exact ⟨y, rfl, by omega, hyb, fun _ => ⟨by have := HA.out.1; omega, HA.out.2⟩, bk⟩

set_option maxHeartbeats 1000000 in
theorem toStringS_any (A : Option Addr) (n c : Nat) (ts : List ByteArray) (w : World) (h : HasS w A n ts) (hn : n ≤ 16777216) :
    Calls Tryd.prog 76 #[.slice A n c] w fun e w' => ∃ A', e = .returned (.slice A' n n) ∧ Strs w' w.heap.size (.slice A' n n) n ts ∧ Below w.heap.size w w' := by
  obtain ⟨i0, hi, hz0, hz1, hz2⟩ := info_parts infoStr
  have hvl : (ts.map Value.string).length = n := by rw [List.length_map, h.1]
  have HH := Lib.hid h
  have HL : Hid (ts.length = n) := h.1
  clear h
  go_enter Tryd.func76, Tryd.ntmps76
  go_wp2_with (at_make; refine wpList_make_full _ rfl _ _ 43 rfl w.heap.size 9 i0 (.string ByteArray.empty) 1 Tryd.underlying43 hi hz0 hz1 .i64 .i64 _ _ n rfl rfl rfl rfl (by rw [hz2]; omega) (by simp only [maxLen]; omega) (Nat.le_refl _) ?_; intro w1 hown hgrow)
  have hb1 := belowOf hgrow
  have hf : Filled w1 w.heap.size 9 w.heap.size n (ts.map Value.string) (fun j => j < 0) := Filled.start hown _ (by intro j _; omega)
  have HV := Lib.hid hvl
  clear hown hgrow hvl
  go_loopw [4] (fun i wr => ∃ k : Nat, k ≤ n ∧ i = .int .i64 k ∧ Filled wr w.heap.size 9 w.heap.size n (ts.map Value.string) (fun j => j < k) ∧ Below w.heap.size w wr) (fun i _ => n - (intOf i).toNat)
  case atStart => exact ⟨0, Nat.zero_le _, rfl, hf, hb1⟩
  case round =>
    obtain ⟨k, hk, rfl, hfk, hbk⟩ := hrel
    by_cases hlt : k < n
    · obtain ⟨ad, rfl, hc⟩ := (HH.out.below hbk).elem hlt
      obtain ⟨u, hu⟩ := hfk.cell hlt
      have hfr := hfk.free k
      obtain ⟨t, ht⟩ : ∃ t, wordAt ts k = t := ⟨_, rfl⟩
      rw [ht] at hc
      have HPut : Hid (Filled (wr.setCell ⟨w.heap.size, k, none⟩ (.string t)) w.heap.size 9 w.heap.size n (ts.map Value.string) (fun j => j < k + 1)) := hfk.put hlt (by
        rw [← ht, List.getElem?_map, List.getElem?_eq_getElem (by rw [HL.out]; exact hlt)]
        simp [wordAt, List.getElem?_eq_getElem (show k < ts.length by rw [HL.out]; exact hlt)]) (by intro j _ hj; omega)
      clear ht
      go_wp2_with fail
      go_roundw
      case rel => exact ⟨k + 1, by omega, by go_num, HPut.out, hbk.setCell (Nat.le_refl _) _⟩
      case measure => simp [intOf]; omega
    · go_wp2_with fail
      go_ret
      refine ⟨some ⟨w.heap.size, 0, none⟩, rfl, ⟨HL.out, hfk.full HV.out (by intro j hj; omega)⟩, hbk⟩

set_option maxHeartbeats 1000000 in
theorem eqStringS_same (A B : Option Addr) (n n' c d : Nat) (ts : List ByteArray) (w : World) (ha : HasS w A n ts) (hb : HasS w B n' ts) (hn : n ≤ 16777216) :
    Calls Tryd.prog 34 #[.slice A n c, .slice B n' d] w fun e w' => e = .returned (.bool true) ∧ Below w.heap.size w w' := by
  obtain rfl : n = n' := ha.1.symm.trans hb.1
  have HA := Lib.hid ha
  have HB := Lib.hid hb
  clear ha hb
  go_enter Tryd.func34, Tryd.ntmps34
  go_wp2_with fail
  go_loopw [5] (fun i wr => ∃ k : Nat, k ≤ n ∧ i = .int .i64 k ∧ Below w.heap.size w wr) (fun i _ => n - (intOf i).toNat)
  case atStart => exact ⟨0, Nat.zero_le _, rfl, Below.refl _ _⟩
  case round =>
    obtain ⟨k, hk, rfl, hbk⟩ := hrel
    by_cases hlt : k < n
    · obtain ⟨ad, rfl, hc⟩ := (HA.out.below hbk).elem hlt
      obtain ⟨bd, rfl, hd⟩ := (HB.out.below hbk).elem hlt
      generalize wordAt ts k = t at hc hd
      have k0 : (0 : Int) ≤ (k : Int) := by omega
      have k1 : (k : Int) < (n : Int) := by omega
      go_wp2_with fail
      go_quiet (fail)
      go_wp2_with fail
      go_roundw
      case rel => exact ⟨k + 1, by omega, by go_num, below_drewN hbk _⟩
      case measure => simp [intOf]; omega
    · go_wp2_with fail
      go_ret
      exact ⟨rfl, hbk⟩

end Go.Proofs.YtcbofogmfelpkaaDoor
