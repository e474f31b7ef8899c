/- Orders: the program's and the model's OrderFrom exchange the same elements. For slices of at most 16777216 elements; the table of first numbers as start-up lays it. -/
import Derived.Test.YtjalpankapakkaaDoorDg5
namespace Go.Proofs.YtjalpankapakkaaDoor
open Go.RowKit

def swapL (l : List Int) (i k : Nat) : List Int := (l.set i (l.getD k 0)).set k (l.getD i 0)
def ordK (zs : List Int) (i : Nat) : Nat := (dg (zs ++ [(i : Int), (i : Int) + 1]) % ((i : Int) + 1)).toNat
def permGo (zs : List Int) : Nat → List Int → List Int
  | 0, l => l
  | i + 1, l => permGo zs i (swapL l (i + 1) (ordK zs (i + 1)))
def ident (n : Nat) : List Int := mapTo (fun j => (j : Int)) n
def m_OrderFrom (zs : List Int) (n : Int) : List Int × Bool := if words 10 zs = true ∧ 0 ≤ n ∧ n ≤ 40 then (permGo zs (n.toNat - 1) (ident n.toNat), true) else ([], false)

theorem swapL_length (l : List Int) (i k : Nat) : (swapL l i k).length = l.length := by simp [swapL]
theorem permGo_length (zs : List Int) (i : Nat) (l : List Int) : (permGo zs i l).length = l.length := by
  induction i generalizing l with
  | zero => rfl
  | succ i ih => rw [permGo, ih, swapL_length]
theorem permGo_step (zs : List Int) (l : List Int) {i : Nat} (hi : 1 ≤ i) : permGo zs i l = permGo zs (i - 1) (swapL l i (ordK zs i)) := by
  obtain ⟨j, rfl⟩ : ∃ j, i = j + 1 := ⟨i - 1, by omega⟩
  rfl

/-- What the walks meet at place i: the element that it is exchanged with. -/
theorem ordAt (zs : List Int) (i : Nat) (hi : 1 ≤ i) : ∃ (D : Int) (κ : Nat), dg (zs ++ [(i : Int), (i : Int) + 1]) = D ∧ 0 ≤ D ∧ D.tmod ((i : Int) + 1) = (κ : Int) ∧ D % ((i : Int) + 1) = (κ : Int) ∧ κ ≤ i ∧ Hid (κ = ordK zs i) := by
  have h0 := (dg_range (zs ++ [(i : Int), (i : Int) + 1])).1
  have r0 := Int.emod_nonneg (dg (zs ++ [(i : Int), (i : Int) + 1])) (show ((i : Int) + 1) ≠ 0 by omega)
  have r1 := Int.emod_lt_of_pos (dg (zs ++ [(i : Int), (i : Int) + 1])) (show (0 : Int) < (i : Int) + 1 by omega)
  refine ⟨_, ordK zs i, rfl, h0, ?_, ?_, ?_, rfl⟩
  · rw [tmodPos h0, ordK]; omega
  · rw [ordK]; omega
  · rw [ordK]; omega

set_option maxHeartbeats 2000000 in
theorem dgOrder_any (A : Option Addr) (n c : Nat) (zs : List Int) (q : Nat) (w : World) (h : Has w A n zs) (hnil : NilOk A n c) (hz : words 10 zs = true) (hq : q ≤ 40) :
    Calls Tryd.prog 43 #[.slice A n c, .int .i64 (q : Int)] w fun e w' => ∃ R c', e = .returned (.slice R q c') ∧ Own w' w.heap.size R q c' (permGo zs (q - 1) (ident q)) ∧ Below w.heap.size w w' := by
  have hn : n ≤ 16777216 := by have := (words_yes hz).1; have := h.1; omega
  have HZ := Lib.hid hz
  clear hz
  go_enter Tryd.func43, Tryd.ntmps43
  go_wp2
  go_loopw [5, 6] (fun v i wr => ∃ k : Nat, k ≤ q ∧ i = .int .i64 k ∧ wr.ownsRow w.heap.size 3 1 v k (vals (ident k)) ∧ Below w.heap.size w wr) (fun _ i _ => q - (intOf i).toNat)
  case atStart => exact ⟨0, Nat.zero_le _, rfl, World.ownsRow_nil _ _ _ _, Below.refl _ _⟩
  case round =>
    obtain ⟨k, hk, rfl, hown, hbk⟩ := hrel
    by_cases hlt : k < q
    · have hsz := hbk.size
      go_wp2_with (at_builtin; refine appendInt wr rfl (.tmp 15) (.tmp 17) rfl (k : Int) w.heap.size _ k _ rfl rfl hown (by omega) hsz ?_; intro v' w1 hown1 hb1)
      go_roundw
      case rel =>
        refine ⟨k + 1, by omega, by go_num, ?_, hbk.trans hb1⟩
        rw [ident, mapTo_succ]
        exact hown1
      case measure => simp [intOf]; omega
    · obtain rfl : k = q := by omega
      obtain ⟨R, c', rfl, ho⟩ := ownOf hown
      clear hown
      have ho : Own wr w.heap.size R k c' (ident k) := ho
      have l0 : (ident k).length = k := mapTo_length _ _
      go_wp2
      go_loopw [7] (fun iv w2 => ∃ (i : Int) (L : List Int), iv = .int .i64 i ∧ -1 ≤ i ∧ i < (k : Int) ∧ Own w2 w.heap.size R k c' L ∧ Below w.heap.size w w2 ∧ Hid (permGo zs i.toNat L = permGo zs (k - 1) (ident k))) (fun iv _ => (intOf iv).toNat)
      case atStart => exact ⟨(k : Int) - 1, _, rfl, by omega, by omega, ho, hbk, by show _ = _; rw [show ((k : Int) - 1).toNat = k - 1 by omega]⟩
      clear ho hbk l0
      case round =>
        obtain ⟨i, L, rfl, i0, i1, ho, hb2, HF⟩ := hrel
        by_cases hi : 0 < i
        · obtain ⟨i, rfl⟩ : ∃ j : Nat, i = (j : Int) := ⟨i.toNat, by omega⟩
          obtain ⟨g, rfl⟩ := ho.spot (by omega)
          obtain ⟨D, κ, hD, D0, et, em, hκ, HK⟩ := ordAt zs i (by omega)
          have H11 : Hid (words 11 (zs ++ [(i : Int)]) = true) := words_append HZ.out (words_one (by omega) (by omega))
          have HD : Hid (dg (zs ++ [(i : Int)] ++ [(i : Int) + 1]) % ((i : Int) + 1) = (κ : Int)) := by
            show _ = _
            rw [List.append_assoc, ← em, ← hD]; rfl
          have hA2 := h.below hb2
          clear hD em et D0
          go_wp2_with fail
          refine (dgWith_any A n c zs (i : Int) _ hA2 hn hnil).mono ?_
          rintro e w3 ⟨R3, c3, rfl, ho3, hb3⟩
          have s2 := hb2.size
          have s3 := hb3.size
          have hi2 := HF.out
          go_wp2_with fail
          refine (dgBelow_any R3 (n + 1) c3 (zs ++ [(i : Int)]) ((i : Int) + 1) _ ho3.has (own_nilOk ho3) H11.out (by omega) (by omega)).mono ?_
          rintro e w4 ⟨rfl, hb4⟩
          rw [HD.out]
          have B4 := hb3.trans (hb4.mono s3)
          have ho4 := ho.below B4
          have b4 := hb2.trans (B4.mono s2)
          have hgl := (ho4.born _ rfl).1
          clear hi2 hb3 hb4 ho3 ho hA2 hb2 B4
          have hci := ho4.cellR (k := i) (by omega)
          have hck := ho4.cellR (k := κ) (by omega)
          obtain ⟨x, hx⟩ : ∃ x, L.getD i 0 = x := ⟨_, rfl⟩
          obtain ⟨y, hy⟩ : ∃ y, L.getD κ 0 = y := ⟨_, rfl⟩
          rw [hx] at hci
          rw [hy] at hck
          have HX := Lib.hid hx
          have HY := Lib.hid hy
          have fi := ho4.freeR i
          have fk := ho4.freeR κ
          have ho5 := ho4.putR i y
          obtain ⟨u2, hu2⟩ : ∃ u2, (w4.setCell ⟨g, i, none⟩ (.int .i64 y)).cell? ⟨g, κ, none⟩ = some u2 := ⟨_, ho5.cellR (by omega)⟩
          have fk2 := ho5.freeR κ
          have ho6 := ho5.putR κ x
          have a0 : (0 : Int) ≤ (i : Int) := by omega
          have a1 : (i : Int) < (k : Int) := by omega
          have a2 : (0 : Int) ≤ (κ : Int) := by omega
          have a3 : (κ : Int) < (k : Int) := by omega
          clear hx hy ho5
          go_wp2
          go_roundw
          case rel =>
            refine ⟨(i : Int) - 1, (L.set i y).set κ x, rfl, by omega, by omega, ho6, (b4.setCell hgl _).setCell hgl _, ?_⟩
            show _ = _
            rw [show ((i : Int) - 1).toNat = i - 1 by omega, ← HF.out, Int.toNat_natCast, permGo_step zs L (i := i) (by omega), ← HK.out, swapL, HX.out, HY.out]
          case measure => simp [intOf]; omega
        · have e0 := HF.out
          rw [show i.toNat = 0 by omega, permGo] at e0
          have HE := Lib.hid e0
          clear e0
          go_wp2
          go_ret
          exact ⟨R, c', rfl, by rw [← HE.out]; exact ho, hb2⟩

set_option maxHeartbeats 1000000 in
theorem spec_OrderFrom (A : Option Addr) (n c : Nat) (zs : List Int) (x : Int) (rs : List Int) (rb : Bool) (w : World) (h : Has w A n zs) (hn : n ≤ 16777216) (hnil : NilOk A n c) (_hx : I64 x) (hm : m_OrderFrom zs x = (rs, rb)) :
    Calls Tryd.prog 12 #[.slice A n c, .int .i64 x] w fun e w' => ∃ R m c', e = .returned (.tuple #[.slice R m c', .bool rb]) ∧ Has w' R m rs ∧ m ≤ 16777216 ∧ Below w.heap.size w w' := by
  cases hg : words 10 zs with
  | false =>
    rw [m_OrderFrom, hg, if_neg (by simp)] at hm
    obtain ⟨rfl, rfl⟩ := Prod.mk.inj hm
    have HG := Lib.hid hg
    clear hm hg
    go_enter Tryd.func12, Tryd.ntmps12
    go_wp2_with fail
    refine (dgShort_any A n c zs false _ h hn HG.out).mono ?_
    rintro e w' ⟨rfl, rfl⟩
    go_wp2
    go_ret2
    exact ⟨none, 0, 0, rfl, Has.nil_, by omega, Below.refl _ _⟩
  | true =>
    have HG := Lib.hid hg
    cases hi : (decide (0 ≤ x) && decide (x ≤ 40)) with
    | false =>
      rw [m_OrderFrom, if_neg (by rintro ⟨-, h1, h2⟩; simp [h1, h2] at hi)] at hm
      obtain ⟨rfl, rfl⟩ := Prod.mk.inj hm
      have HI := Lib.hid hi
      clear hm hg hi
      go_enter Tryd.func12, Tryd.ntmps12
      go_wp2_with fail
      refine (dgShort_any A n c zs true _ h hn HG.out).mono ?_
      rintro e w' ⟨rfl, rfl⟩
      go_wp2_with fail
      refine (l1In_any x 0 40 false _ HI.out).mono ?_
      rintro e w' ⟨rfl, rfl⟩
      go_wp2
      go_ret2
      exact ⟨none, 0, 0, rfl, Has.nil_, by omega, Below.refl _ _⟩
    | true =>
      have hi2 := hi
      rw [Bool.and_eq_true, decide_eq_true_eq, decide_eq_true_eq] at hi2
      rw [m_OrderFrom, if_pos ⟨hg, hi2⟩] at hm
      obtain ⟨q, rfl⟩ : ∃ q : Nat, x = (q : Int) := ⟨x.toNat, by omega⟩
      rw [Int.toNat_natCast] at hm
      obtain ⟨rfl, rfl⟩ := Prod.mk.inj hm
      have HI := Lib.hid hi
      have q64 : q ≤ 40 := by omega
      clear hm hg hi hi2
      go_enter Tryd.func12, Tryd.ntmps12
      go_wp2_with fail
      refine (dgShort_any A n c zs true _ h hn HG.out).mono ?_
      rintro e w' ⟨rfl, rfl⟩
      go_wp2_with fail
      refine (l1In_any (q : Int) 0 40 true _ HI.out).mono ?_
      rintro e w' ⟨rfl, rfl⟩
      go_wp2_with fail
      refine (dgOrder_any A n c zs q _ h hnil HG.out q64).mono ?_
      rintro e w' ⟨R, c', rfl, ho, hb⟩
      go_wp2
      go_ret2
      exact ⟨R, q, c', rfl, ho.has, by omega, hb⟩

end Go.Proofs.YtjalpankapakkaaDoor
