/- The model's moved gates. For valid gates and at most 1000 wires. -/
import Derived.Test.YtaohgbkhmgfnhaaCirM6
import Derived.Test.YtaohgbkhmgfnhaaCirA1
import Derived.Deep.DeepCutAuto
namespace Go.Proofs.Ytaohgbkhmgfnhaa
open Go.RowKit
set_option maxRecDepth 100000

set_option maxRecDepth 100000 in
set_option maxHeartbeats 4000000 in
theorem ciMoved_any (A : Option Addr) (n c : Nat) (gs : List Ga) (B : Option Addr) (m d : Nat) (ws : List Int) (next : Int) (w : World) (hG : HasG w A n gs) (hn : n ≤ 300) (hW : Has w B m ws) (hm : m ≤ 1000) (hnil : NilOk B m d)
    (hgate : ∀ k, k < n → gateOk ((m : Int) + (k : Int)) (gs.getD k g0) = true) (x0 : 0 ≤ next) (x1 : next ≤ 100000) :
    Calls Try.prog 69 #[.slice A n c, .slice B m d, .int .i64 next] w fun e w' => ∃ R c1 R2 c2, e = .returned (.tuple #[.slice R n c1, .slice R2 (m + n) c2]) ∧ OwnG w' w.heap.size R n c1 (movTo gs ws next n) ∧ Own w' w.heap.size R2 (m + n) c2 (wiresTo ws next n) ∧ Below w.heap.size w w' := by
  have hwl := hW.1
  have HGate := Lib.hid hgate
  have HW0 : Hid (wiresTo ws next 0 = ws) := by show _ = _; simp [wiresTo, mapTo]
  clear hgate
  go_enter Try.func69, Try.ntmps69
  go_wp2_with fail
  refine (l1Own_all B m d ws w hW (by omega) hnil).mono ?_
  rintro e w1 ⟨R1, c1, rfl, o1, b1⟩
  have o1' : Own w1 w.heap.size R1 m c1 (wiresTo ws next 0) := by rw [HW0.out]; exact o1
  clear o1
  go_wp2_with fail
  go_loopw [1, 2, 8, 15] (fun wv nv gv iv wr => ∃ (k : Nat) (R : Option Addr) (cR : Nat) (S : Option Addr) (l cS : Nat), k ≤ n ∧ iv = .int .i64 k ∧ nv = .int .i64 (next + (k : Int)) ∧ gv = .slice R k cR ∧ wv = .slice S l cS ∧ Hid (l = m + k) ∧ OwnG wr w.heap.size R k cR (movTo gs ws next k) ∧ Own wr w.heap.size S l cS (wiresTo ws next k) ∧ Below w.heap.size w wr) (fun _ _ _ iv _ => n - (intOf iv).toNat)
  case atStart => exact ⟨0, none, 0, R1, m, c1, Nat.zero_le _, rfl, by simp, rfl, rfl, rfl, OwnG.nil_ _ _, o1', b1⟩
  case round =>
    obtain ⟨k, R, cR, S, l, cS, hk, rfl, rfl, rfl, rfl, HL, oG, oW, bk⟩ := hrel
    by_cases hlt : k < n
    · obtain ⟨ad, x, y, z, rfl, hgx, hgy, hgz, HE⟩ := (hG.below bk).elem hlt
      have hgate := HGate.out k hlt
      rw [HE.out] at hgate
      have hl := HL.out
      have hgate' : gateOk (l : Int) (x, y, z) = true := by rw [hl]; push_cast; exact hgate
      have l1300 : l ≤ 1300 := by omega
      have HMov : Hid (∀ p q r : Int, movedG (wiresTo ws next k) (x, y, z) = (p, q, r) → movTo gs ws next k ++ [(p, q, r)] = movTo gs ws next (k + 1)) := fun p q r h => by rw [movTo_succ, HE.out, h]
      have HWir : Hid (wiresTo ws next k ++ [next + (k : Int)] = wiresTo ws next (k + 1)) := (wiresTo_succ ws next k).symm
      have b3 := belowNew wr (.cells #[.int .i64 x, .int .i64 y, .int .i64 z] 51)
      have y3 := Blk.new wr #[.int .i64 x, .int .i64 y, .int .i64 z] 51
      have oG3 := oG.below b3
      have oW3 := oW.below b3
      have q0 : (0 : Int) ≤ (k : Int) := by omega
      have q1 : (k : Int) < (n : Int) := by omega
      obtain ⟨w3, hw3⟩ : ∃ W, W = wr.alloc (.cells #[.int .i64 x, .int .i64 y, .int .i64 z] 51) := ⟨_, rfl⟩
      rw [← hw3] at b3 y3 oG3 oW3
      have B3 := bk.trans (b3.mono bk.size)
      have s3 : w.heap.size ≤ w3.heap.size := B3.size
      have sr : w.heap.size ≤ wr.heap.size := bk.size
      have gOld : ∀ a, R = some a → a.block < wr.heap.size := fun a e => (oG.born a e).2
      have wOld : ∀ a, S = some a → a.block < wr.heap.size := fun a e => (oW.born a e).2
      have GO := Lib.hid gOld
      have WO := Lib.hid wOld
      have g0c := y3.cell (i := 0) rfl
      have hwn : IntKind.i64.wrap (next + (k : Int) + 1) = next + (k : Int) + 1 := wrapIn (by omega) (by omega)
      have HNx : Hid (next + (k : Int) + 1 = next + ((k + 1 : Nat) : Int)) := by show _ = _; push_cast; omega
      clear hgate b3 oG oW bk gOld wOld hl
      rcases gateOk_yes hgate' with ⟨hx01, hy, hz⟩ | ⟨rfl, hy, rfl⟩ | ⟨rfl, rfl, rfl⟩
      · obtain ⟨jy, rfl⟩ : ∃ j : Nat, y = (j : Int) := ⟨y.toNat, by omega⟩
        obtain ⟨jz, rfl⟩ : ∃ j : Nat, z = (j : Int) := ⟨z.toNat, by omega⟩
        obtain ⟨rd, va, rfl, hcy, HY⟩ := oW3.has.elem (k := jy) (by omega)
        have a0 : (0 : Int) ≤ (jy : Int) := by omega
        have a1 : (jy : Int) < (l : Int) := by omega
        have a2 : (0 : Int) ≤ (jz : Int) := by omega
        have a3 : (jz : Int) < (l : Int) := by omega
        have g1c := y3.cell (i := 1) rfl
        have f1c := y3.free 1
        clear hy hz hgate'
        rcases hx01 with rfl | rfl
        all_goals
          go_upto_region 9 with fail
          rw [← hw3]
          clear hw3
          go_upto_region 10 with fail
          obtain ⟨w4, hw4⟩ : ∃ W, W = w3.setCell ⟨wr.heap.size, 1, none⟩ (.int .i64 va) := ⟨_, rfl⟩
          have gqw4 : w3.grownBy w4 (some wr.heap.size) := by rw [hw4]; exact grown_setCell (World.grownBy.refl _ _) _ _
          have y4 := y3.set 1 (.int .i64 va)
          rw [← hw4] at y4
          have oG4 := oG3.kept gqw4 (fun a e e2 => by have := GO.out a e; simp at e2; omega)
          have oW4 := oW3.kept gqw4 (fun a e e2 => by have := WO.out a e; simp at e2; omega)
          have B4 := B3.grown gqw4 B3.size (fun k hk => by simp at hk; omega)
          rw [← hw4]
          obtain ⟨rd', vb, e, hcz, HZ⟩ := oW4.has.elem (k := jz) (by omega)
          injection e with e
          subst e
          have g2c := y4.cell (i := 2) rfl
          have f2c := y4.free 2
          clear hw4 gqw4 hcy g1c f1c g0c hgx hgy hgz
          go_upto_region 13 with fail
          obtain ⟨w5, hw5⟩ : ∃ W, W = w4.setCell ⟨wr.heap.size, 2, none⟩ (.int .i64 vb) := ⟨_, rfl⟩
          have gqw5 : w4.grownBy w5 (some wr.heap.size) := by rw [hw5]; exact grown_setCell (World.grownBy.refl _ _) _ _
          have y5 := y4.set 2 (.int .i64 vb)
          rw [← hw5] at y5
          have oG5 := oG4.kept gqw5 (fun a e e2 => by have := GO.out a e; simp at e2; omega)
          have oW5 := oW4.kept gqw5 (fun a e e2 => by have := WO.out a e; simp at e2; omega)
          have B5 := B4.grown gqw5 B4.size (fun k hk => by simp at hk; omega)
          rw [← hw5]
          have s5 : w.heap.size ≤ w5.heap.size := B5.size
          have c0 := y5.cell (i := 0) rfl
          have c1' := y5.cell (i := 1) rfl
          have c2' := y5.cell (i := 2) rfl
          clear hw5 gqw5 hcz g2c f2c
          go_upto_region 14 with (at_builtin; refine appendGate w5 rfl (.tmp 44) (.tmp 46) rfl _ va vb w.heap.size (.slice R k cR) k (movTo gs ws next k) rfl rfl oG5.2 (by omega) s5 ?_; intro v6 w6 own6 b6 gr6)
          rw [ownBlockOf] at gr6
          have oW6 := oW5.apartG oG5 gr6
          rw [HMov.out _ _ _ (by rw [movedG, HY.out, HZ.out]; simp)] at own6
          obtain ⟨R6, c6, rfl, oG6⟩ := ownGOf own6
          have B6 := B5.trans b6
          have s6 : w.heap.size ≤ w6.heap.size := B6.size
          clear own6 b6 gr6
          go_wp2_with (at_builtin; refine appendIntG w6 rfl (.tmp 48) (.tmp 50) rfl (next + (k : Int)) w.heap.size (.slice (some rd) l cS) l (wiresTo ws next k) rfl rfl oW6.2 (by omega) s6 ?_; intro v7 w7 own7 b7 gr7)
          rw [ownBlockOf] at gr7
          have oG7 := oG6.apartI oW6 gr7
          rw [HWir.out] at own7
          obtain ⟨S7, c7, rfl, oW7⟩ := ownOf own7
          go_roundw
          case rel => exact ⟨k + 1, R6, c6, S7, l + 1, c7, by omega, by go_num, by rw [HNx.out], rfl, rfl, by have := HL.out; show _ = _; omega, oG7, oW7, B6.trans b7⟩
          case measure => simp [intOf]; omega
      · obtain ⟨jy, rfl⟩ : ∃ j : Nat, y = (j : Int) := ⟨y.toNat, by omega⟩
        obtain ⟨rd, va, rfl, hcy, HY⟩ := oW3.has.elem (k := jy) (by omega)
        have a0 : (0 : Int) ≤ (jy : Int) := by omega
        have a1 : (jy : Int) < (l : Int) := by omega
        have g1c := y3.cell (i := 1) rfl
        have f1c := y3.free 1
        clear hy hgate'
        go_upto_region 12 with fail
        rw [← hw3]
        clear hw3
        go_upto_region 13 with fail
        obtain ⟨w4, hw4⟩ : ∃ W, W = w3.setCell ⟨wr.heap.size, 1, none⟩ (.int .i64 va) := ⟨_, rfl⟩
        have gqw4 : w3.grownBy w4 (some wr.heap.size) := by rw [hw4]; exact grown_setCell (World.grownBy.refl _ _) _ _
        have y4 := y3.set 1 (.int .i64 va)
        rw [← hw4] at y4
        have oG4 := oG3.kept gqw4 (fun a e e2 => by have := GO.out a e; simp at e2; omega)
        have oW4 := oW3.kept gqw4 (fun a e e2 => by have := WO.out a e; simp at e2; omega)
        have B4 := B3.grown gqw4 B3.size (fun k hk => by simp at hk; omega)
        rw [← hw4]
        have s4 : w.heap.size ≤ w4.heap.size := B4.size
        have c0 := y4.cell (i := 0) rfl
        have c1' := y4.cell (i := 1) rfl
        have c2' := y4.cell (i := 2) rfl
        clear hw4 gqw4 hcy g1c f1c g0c hgx hgy hgz
        go_upto_region 14 with (at_builtin; refine appendGate w4 rfl (.tmp 44) (.tmp 46) rfl 2 va 0 w.heap.size (.slice R k cR) k (movTo gs ws next k) rfl rfl oG4.2 (by omega) s4 ?_; intro v6 w6 own6 b6 gr6)
        rw [ownBlockOf] at gr6
        have oW6 := oW4.apartG oG4 gr6
        rw [HMov.out _ _ _ (by rw [movedG, HY.out]; simp)] at own6
        obtain ⟨R6, c6, rfl, oG6⟩ := ownGOf own6
        have B6 := B4.trans b6
        have s6 : w.heap.size ≤ w6.heap.size := B6.size
        clear own6 b6 gr6
        go_wp2_with (at_builtin; refine appendIntG w6 rfl (.tmp 48) (.tmp 50) rfl (next + (k : Int)) w.heap.size (.slice (some rd) l cS) l (wiresTo ws next k) rfl rfl oW6.2 (by omega) s6 ?_; intro v7 w7 own7 b7 gr7)
        rw [ownBlockOf] at gr7
        have oG7 := oG6.apartI oW6 gr7
        rw [HWir.out] at own7
        obtain ⟨S7, c7, rfl, oW7⟩ := ownOf own7
        go_roundw
        case rel => exact ⟨k + 1, R6, c6, S7, l + 1, c7, by omega, by go_num, by rw [HNx.out], rfl, rfl, by have := HL.out; show _ = _; omega, oG7, oW7, B6.trans b7⟩
        case measure => simp [intOf]; omega
      · have c1' := y3.cell (i := 1) rfl
        have c2' := y3.cell (i := 2) rfl
        clear hgate'
        go_upto_region 13 with fail
        rw [← hw3]
        clear hw3 hgx hgy hgz
        go_upto_region 14 with (at_builtin; refine appendGate w3 rfl (.tmp 44) (.tmp 46) rfl 3 0 0 w.heap.size (.slice R k cR) k (movTo gs ws next k) rfl rfl oG3.2 (by omega) s3 ?_; intro v6 w6 own6 b6 gr6)
        rw [ownBlockOf] at gr6
        have oW6 := oW3.apartG oG3 gr6
        rw [HMov.out _ _ _ (by rw [movedG]; simp)] at own6
        obtain ⟨R6, c6, rfl, oG6⟩ := ownGOf own6
        have B6 := B3.trans b6
        have s6 : w.heap.size ≤ w6.heap.size := B6.size
        clear own6 b6 gr6
        go_wp2_with (at_builtin; refine appendIntG w6 rfl (.tmp 48) (.tmp 50) rfl (next + (k : Int)) w.heap.size (.slice S l cS) l (wiresTo ws next k) rfl rfl oW6.2 (by omega) s6 ?_; intro v7 w7 own7 b7 gr7)
        rw [ownBlockOf] at gr7
        have oG7 := oG6.apartI oW6 gr7
        rw [HWir.out] at own7
        obtain ⟨S7, c7, rfl, oW7⟩ := ownOf own7
        go_roundw
        case rel => exact ⟨k + 1, R6, c6, S7, l + 1, c7, by omega, by go_num, by rw [HNx.out], rfl, rfl, by have := HL.out; show _ = _; omega, oG7, oW7, B6.trans b7⟩
        case measure => simp [intOf]; omega
    · obtain rfl : k = n := by omega
      have hl := HL.out
      subst hl
      go_wp2_with fail
      go_ret2
      exact ⟨R, cR, S, cS, rfl, oG, oW, bk⟩

end Go.Proofs.Ytaohgbkhmgfnhaa
