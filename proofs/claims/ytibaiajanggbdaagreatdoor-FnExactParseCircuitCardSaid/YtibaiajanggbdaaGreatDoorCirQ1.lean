/- The program's reading of numbers, and of a line: a word and numbers. For every line of at most 1048576 bytes. -/
import Derived.Test.YtibaiajanggbdaaGreatDoorCirK3
import Derived.Test.YtibaiajanggbdaaGreatDoorCirP3
import Derived.Test.YtibaiajanggbdaaGreatDoorLists
namespace Go.Proofs.YtibaiajanggbdaaGreatDoor
open Go Go.RowKit
set_option maxRecDepth 100000

def numOf (ws : List ByteArray) (j : Nat) : Int := (pNum (wordAt ws j)).getD 0
def okN (ws : List ByteArray) : Bool := (List.range ws.length).all fun j => (pNum (wordAt ws j)).isSome
def pNums (ws : List ByteArray) : List Int × Bool := if okN ws = true then (mapTo (numOf ws) ws.length, true) else ([], false)
def pLine (l : ByteArray) : ByteArray × List Int × Bool := (wordAt (piecesB 32 l) 0, (pNums ((piecesB 32 l).drop 1)).1, (pNums ((piecesB 32 l).drop 1)).2)
theorem wordAt_drop (ws : List ByteArray) (j : Nat) : wordAt (ws.drop 1) j = wordAt ws (1 + j) := by
  simp [wordAt, List.getD_eq_getElem?_getD, Nat.add_comm]
theorem okN_yes {ws : List ByteArray} (h : ∀ j, j < ws.length → (pNum (wordAt ws j)).isSome = true) : okN ws = true := by
  rw [okN, List.all_eq_true]
  intro j hj
  exact h j (List.mem_range.1 hj)
theorem okN_no {ws : List ByteArray} {j : Nat} (hj : j < ws.length) (h : pNum (wordAt ws j) = none) : okN ws = false := by
  rw [okN, List.all_eq_false]
  exact ⟨j, List.mem_range.2 hj, by rw [h]; simp⟩

set_option maxRecDepth 100000 in
set_option maxHeartbeats 8000000 in
theorem readNumbers_any (A : Option Addr) (n c : Nat) (ws : List ByteArray) (zs : List Int) (b : Bool) (w : World) (h : HasS w A n ws) (hn : n ≤ 16777216) (hz : ∀ j, j < n → (wordAt ws j).size ≤ 1048576) (hR : Reads w) (hm : pNums ws = (zs, b)) :
    Calls Tryz.prog 116 #[.slice A n c] w fun e w' => ∃ R m d, e = .returned (.tuple #[.slice R m d, .bool b]) ∧ Own w' w.heap.size R m d zs ∧ m ≤ n ∧ Below w.heap.size w w' := by
  have HM := Lib.hid hm
  have HL : Hid (ws.length = n) := h.1
  have HS := Lib.hid h
  have HSz := Lib.hid hz
  have HR0 := Lib.hid hR
  clear hm hR hz h
  go_enter Tryz.func116, Tryz.ntmps116
  go_wp2_with (at_make; refine makeInts _ rfl _ rfl n rfl hn ?_; intro w1 hf hb1)
  have HF := Lib.hid (hf (vals (mapTo (numOf ws) n)))
  have HB1 := Lib.hid hb1
  have HA0 : Hid (∀ j, j < 0 → (pNum (wordAt ws j)).isSome = true) := fun j hj => by omega
  clear hf hb1
  go_wp2_with fail
  go_loopw [14] (fun i wr => ∃ (k : Nat), k ≤ n ∧ i = .int .i64 k ∧ Filled wr w.heap.size 3 w.heap.size n (vals (mapTo (numOf ws) n)) (fun j => j < k) ∧ Hid (∀ j, j < k → (pNum (wordAt ws j)).isSome = true) ∧ Below w.heap.size w wr) (fun i _ => n - (intOf i).toNat)
  case atStart => exact ⟨0, Nat.zero_le _, rfl, HF.out, HA0, HB1.out⟩
  case round =>
    obtain ⟨k, hk, rfl, hf, HA, bk⟩ := hrel
    by_cases hlt : k < n
    · obtain ⟨ad, rfl, c1⟩ := (HS.out.below bk).elem hlt
      obtain ⟨x1, hx1⟩ : ∃ x, wordAt ws k = x := ⟨_, rfl⟩
      have z1 := HSz.out k hlt
      rw [hx1] at c1 z1
      have HAt := Lib.hid (atoi_any x1 wr z1 (HR0.out.below bk))
      have HX1 := Lib.hid hx1
      have p0 : (0 : Int) ≤ (k : Int) := by omega
      have p1 : (k : Int) < (n : Int) := by omega
      clear hx1
      go_wp2_with fail
      refine (HAt.out).mono ?_
      rintro e w4 ⟨v, er, bo, rfl, hor, b4⟩
      have hf4 := hf.below b4
      obtain ⟨u0, hu0⟩ := hf4.cell hlt
      have hfr := hf4.free k
      rcases hor with ⟨rfl, rfl, hp⟩ | ⟨rfl, ⟨te, pe, rfl⟩, hp⟩
      · have HPut : Hid (Filled (w4.setCell ⟨w.heap.size, k, none⟩ (.int .i64 v)) w.heap.size 3 w.heap.size n (vals (mapTo (numOf ws) n)) (fun j => j < k + 1)) := hf4.put hlt (by
          rw [vals_at _ k (by rw [mapTo_length]; exact hlt), mapTo_at _ hlt, numOf, HX1.out, hp]
          rfl) (fun j _ hj => by omega)
        have HA2 : Hid (∀ j, j < k + 1 → (pNum (wordAt ws j)).isSome = true) := fun j hj => by
          by_cases h : j < k
          · exact HA.out j h
          · obtain rfl : j = k := by omega
            rw [HX1.out, hp]
            rfl
        have B4 := bk.trans (b4.mono bk.size)
        clear HAt hp
        go_wp2_with fail
        go_roundw
        case rel => exact ⟨k + 1, by omega, by go_num, HPut.out, HA2, B4.setCell (Nat.le_refl _) _⟩
        case measure => simp [intOf]; omega
      · have e := HM.out
        rw [pNums, okN_no (j := k) (by rw [HL.out]; omega) (by rw [HX1.out]; exact hp)] at e
        simp only [Bool.false_eq_true, if_false] at e
        obtain ⟨rfl, rfl⟩ := Prod.mk.inj e
        have B4 := bk.trans (b4.mono bk.size)
        clear HAt hp e HM
        go_wp2_with fail
        go_ret2
        exact ⟨none, 0, 0, rfl, Own.nil_ _ _, by omega, B4⟩
    · obtain rfl : k = n := by omega
      have e := HM.out
      rw [pNums, okN_yes (fun j hj => HA.out j (by rw [HL.out] at hj; omega)), if_pos rfl, HL.out] at e
      obtain ⟨rfl, rfl⟩ := Prod.mk.inj e
      have hfull := hf.full (by rw [vals_length, mapTo_length]) (fun j hj => hj)
      have HOw : Hid (Own wr w.heap.size (some ⟨w.heap.size, 0, none⟩) k k (mapTo (numOf ws) k)) := ⟨mapTo_length _ _, hfull⟩
      clear e HM
      go_wp2_with fail
      go_ret2
      exact ⟨_, _, _, rfl, by simpa using HOw.out, by omega, bk⟩

set_option maxRecDepth 100000 in
set_option maxHeartbeats 8000000 in
theorem readLine_any (l x : ByteArray) (zs : List Int) (b : Bool) (w : World) (hs : l.size ≤ 1048576) (hR : Reads w) (hm : pLine l = (x, zs, b)) :
    Calls Tryz.prog 103 #[.string l] w fun e w' => ∃ R m c, e = .returned (.tuple #[.string x, .slice R m c, .bool b]) ∧ Own w' w.heap.size R m c zs ∧ m ≤ 1048577 ∧ Below w.heap.size w w' := by
  have HSp := Lib.hid (split_any l 32 w hs hR)
  have HR0 := Lib.hid hR
  obtain ⟨ws, hws⟩ : ∃ ws, piecesB 32 l = ws := ⟨_, rfl⟩
  have HSz : Hid (∀ j, j < ws.length → (wordAt ws j).size ≤ 1048576) := fun j hj => by
    have h1 : wordAt ws j ∈ piecesB 32 l := by
      rw [hws]
      simp [wordAt, List.getElem?_eq_getElem hj]
    exact Nat.le_trans (piece_size 32 l _ h1) hs
  rw [pLine, hws] at hm
  have HM := Lib.hid hm
  have HWs := Lib.hid hws
  clear hm hR hws
  go_enter Tryz.func103, Tryz.ntmps103
  go_wp2_with fail
  refine (HSp.out).mono ?_
  rintro e w1 ⟨v, n, rfl, hts, hn1, hn2, b1⟩
  rw [HWs.out] at hts
  obtain ⟨g, cp, rfl, hgw, hncp, _⟩ := wordsAt hts hn1
  have hl : ws.length = n := hts.1
  obtain ⟨m, rfl⟩ : ∃ m, n = m + 1 := ⟨n - 1, by omega⟩
  have c0 := wordsIn hts 0 (by omega)
  obtain ⟨hx, e2⟩ := Prod.mk.inj HM.out
  rw [hx] at c0
  have hSub : ∀ ad : Addr, (0 < m → ad = ⟨g, 1, none⟩) → HasS w1 (some ad) m (ws.drop 1) := fun ad had => by
    refine ⟨by rw [List.length_drop]; omega, fun hm => ?_⟩
    rw [had hm]
    refine ⟨_, rfl, hgw, fun k hk => ?_⟩
    rw [Lib.add_plain, wordsIn hts (1 + k) (by omega)]
    rw [wordAt_drop]
  have hDz : ∀ j, j < m → (wordAt (ws.drop 1) j).size ≤ 1048576 := fun j hj => by
    rw [wordAt_drop]
    exact HSz.out _ (by omega)
  have hR1 := HR0.out.below b1
  have HN := Lib.hid (fun ad c had => readNumbers_any (some ad) m c (ws.drop 1) zs b w1 (hSub ad had) (by omega) hDz hR1 e2)
  have HB1 := Lib.hid b1
  have s1 := b1.size
  have hm2 : m ≤ 1048577 := by omega
  have x1 : IntKind.i64.wrap (((m + 1 : Nat) : Int) - 1) = (m : Int) := by rw [wrapIn (by omega) (by omega)]; omega
  have n1 : (1 : Int) ≤ ((m + 1 : Nat) : Int) := by omega
  have cpn : ((m + 1 : Nat) : Int) ≤ (cp : Int) := by omega
  have n0 : (0 : Int) < ((m + 1 : Nat) : Int) := by omega
  clear HSp hts b1 hl hSub hDz hR1 hx e2 HM
  by_cases hcp : cp = 1
  · obtain rfl : m = 0 := by omega
    subst hcp
    go_wp2_with fail
    ((with_reducible refine (HN.out _ _ (fun h => by omega)).mono ?_))
    rintro e w2 ⟨R, r, d, rfl, ho, hr, b2⟩
    have c2 := (World.cell?_of_block (b2.block _ hgw)).trans c0
    have B2 := HB1.out.trans (b2.mono s1)
    have o2 := ho.mono s1
    clear c0 b2 ho HN
    go_wp2_with fail
    go_ret3
    exact ⟨_, _, _, rfl, o2, by omega, B2⟩
  · go_wp2_with fail
    ((with_reducible refine (HN.out _ _ (fun _ => rfl)).mono ?_))
    rintro e w2 ⟨R, r, d, rfl, ho, hr, b2⟩
    have c2 := (World.cell?_of_block (b2.block _ hgw)).trans c0
    have B2 := HB1.out.trans (b2.mono s1)
    have o2 := ho.mono s1
    clear c0 b2 ho HN
    go_wp2_with fail
    go_ret3
    exact ⟨_, _, _, rfl, o2, by omega, B2⟩

end Go.Proofs.YtibaiajanggbdaaGreatDoor
