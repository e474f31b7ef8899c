/- Constant numbers: the mathematics and the model's side. For numbers of at most 16 bits. -/
import Derived.Test.YtnmjnffnelkciaaGdR1
import Derived.Test.YtnmjnffnelkciaaGdG3
import Derived.Deep.DeepCutAuto
namespace Go.Proofs.Ytnmjnffnelkciaa
open Go Go.RowKit
set_option maxRecDepth 100000

/-- The wires of a constant number, where p is the wire of GtOne and p + 1 that of its opposite. -/
def constL (p x : Int) (m : Nat) : List Int := mapTo (fun j => if x / 2 ^ j % 2 = 1 then p else p + 1) m
theorem constL_succ (p x : Int) (m : Nat) : constL p x (m + 1) = constL p x m ++ [if x / 2 ^ m % 2 = 1 then p else p + 1] := mapTo_succ _ _
theorem constL_length (p x : Int) (m : Nat) : (constL p x m).length = m := mapTo_length _ _
def constC (x : Int) (m : Nat) : Ci := ⟨0, 0, [(3, 0, 0), (2, 0, 0)], constL 0 x m⟩
def constB (n w : Int) : Bool := decide (1 ≤ w) && wordB n w
def m_ConstantCircuit (n w : Int) : Ci × Bool := if constB n w = true then (constC n w.toNat, true) else (zeroC, false)
theorem const_cases (n w : Int) : (constB n w = false ∧ m_ConstantCircuit n w = (zeroC, false)) ∨ ∃ m : Nat, w = (m : Int) ∧ 1 ≤ m ∧ m ≤ 16 ∧ 0 ≤ n ∧ n ≤ 65536 ∧ wordB n w = true ∧ m_ConstantCircuit n w = (constC n m, true) := by
  cases h : constB n w with
  | false => exact .inl ⟨rfl, by rw [m_ConstantCircuit, h]; rfl⟩
  | true =>
    have h2 : 1 ≤ w ∧ wordB n w = true := by simpa [constB] using h
    have h3 := wordB_yes h2.2
    refine .inr ⟨w.toNat, by omega, by omega, by omega, by omega, ?_, h2.2, by rw [m_ConstantCircuit, h]; rfl⟩
    have := pow16 (k := w.toNat) (by omega)
    omega
theorem const_small {n w : Int} {RC : Ci} {rb : Bool} (hm : m_ConstantCircuit n w = (RC, rb)) : RC.gs.length ≤ 1048576 ∧ RC.os.length ≤ 1048576 := by
  rcases const_cases n w with ⟨_, h⟩ | ⟨m, _, _, h16, _, _, _, h⟩
  · rw [h] at hm
    obtain ⟨rfl, _⟩ := Prod.mk.inj hm
    exact ⟨by simp [zeroC], by simp [zeroC]⟩
  · rw [h] at hm
    obtain ⟨rfl, _⟩ := Prod.mk.inj hm
    exact ⟨by simp [constC], by simp [constC, constL_length]; omega⟩

set_option maxRecDepth 100000 in
set_option maxHeartbeats 2000000 in
theorem gdConst_any (x : Int) (m : Nat) (x0 : 0 ≤ x) (x1 : x ≤ 65536) (hm : m ≤ 16) (q B N0 N1 : Nat) (R : Option Addr) (n c : Nat) (G : List Ga) (w : World) (hM : Mk w 58 q B N0 N1 R n c G) (h0 : N0 ≤ 1000) (h1 : N1 ≤ 1000) (hn : n ≤ 900000) :
    Calls Try.prog 65 #[.pointer (some ⟨q, 0, none⟩), .int .i64 x, .int .i64 (m : Int)] w fun e w' => ∃ (R' : Option Addr) (c' : Nat) (O : Option Addr) (cO : Nat), e = .returned (.slice O m cO) ∧ Own w' w.heap.size O m cO (constL ((N0 + N1 + n : Nat) : Int) x m) ∧ Mk w' 58 q B N0 N1 R' (n + 2) c' (G ++ [(3, 0, 0), (2, ((N0 + N1 + n : Nat) : Int), 0)]) ∧ MkTo q w (blockOf R) w' (blockOf R') := by
  have T1 := MkTo.refl q w (blockOf R)
  obtain ⟨w1, hw1⟩ : ∃ w1, w1 = w := ⟨_, rfl⟩
  have M1 : Mk w1 58 q B N0 N1 R n c G := by rw [hw1]; exact hM
  have T1 : MkTo q w (blockOf R) w1 (blockOf R) := by rw [hw1]; exact T1
  clear hM
  go_enter Try.func65, Try.ntmps65
  go_wp2_with fail
  rw [← hw1]
  clear hw1
  refine (mkOne_any  q B N0 N1 _ _ _ _ _ M1 h0 h1 (by omega)).mono ?_
  rintro e w2 ⟨R2, c2, z2, rfl, hz2, M2, t2⟩
  have T2 := T1.trans t2
  clear t2 T1 M1 
  go_wp2_with fail
  refine (mkNot_any z2 q B N0 N1 _ _ _ _ _ M2 h0 h1 (by omega)).mono ?_
  rintro e w3 ⟨R3, c3, z3, rfl, hz3, M3, t3⟩
  have T3 := T2.trans t3
  clear t3 T2 M2 
  go_wp2_with fail
  refine (btOf_any x m w3 x0 x1 hm).mono ?_
  rintro e w4 ⟨S, cS, rfl, o4, b4⟩
  have M4 := M3.below b4
  have T4 := T3.next b4
  have hS := o4.hasI
  have oldS := hS.old
  have sz4 := T4.size
  clear M3 T3 b4 o4
  go_wp2_with fail
  go_loopw [9, 21] (fun ov iv wr => ∃ (k : Nat) (O : Option Addr) (cO : Nat), k ≤ m ∧ iv = .int .i64 k ∧ ov = .slice O k cO ∧ HasI wr S m (mapTo (fun j => x / 2 ^ j % 2) m) ∧ Mk wr 58 q B N0 N1 R3 (n + 1 + 1) c3 (G ++ [(3, 0, 0)] ++ [(2, z2, 0)]) ∧ Own wr w4.heap.size O k cO (constL z2 x k) ∧ MkTo q w (blockOf R) wr (blockOf R3) ∧ w4.heap.size ≤ wr.heap.size) (fun _ iv _ => m - (intOf iv).toNat)
  case atStart => exact ⟨0, none, 0, Nat.zero_le _, rfl, rfl, hS, M4, Own.nil_ _ _, T4, Nat.le_refl _⟩
  case round =>
    obtain ⟨k, O, cO, hk, rfl, rfl, hSk, Mk4, Ok, Tk, szk⟩ := hrel
    by_cases hlt : k < m
    · obtain ⟨ad, y, rfl, hcy, HY⟩ := hSk.1.elem hlt
      have hy : y = x / 2 ^ k % 2 := by rw [HY.out, mapTo_at _ hlt]
      have hz : z3 = z2 + 1 := by rw [hz3.out, hz2.out]; push_cast; omega
      have q0 : (0 : Int) ≤ (k : Int) := by omega
      have q1 : (k : Int) < (m : Int) := by omega
      have HK : Hid (constL z2 x k ++ [if y = 1 then z2 else z3] = constL z2 x (k + 1)) := by show _ = _; rw [constL_succ, hy, hz]
      clear hy hz
      by_cases hy1 : y = 1
      · rw [if_pos hy1] at HK
        go_wp2_with (at_builtin; refine appendIntG wr rfl (.tmp 27) (.tmp 29) rfl z2 w4.heap.size (.slice O k cO) k (constL z2 x k) rfl rfl Ok.2 (by omega) szk ?_; intro v5 w5 own5 b5 g5)
        rw [ownBlockOf] at g5
        rw [HK.out] at own5
        obtain ⟨X5, cX5, rfl, O5⟩ := ownOf own5
        have M5 := Mk4.rowed Ok g5
        have T5 := Tk.grown g5 (fun x e => Nat.le_trans sz4 (Ok.rowGe x e))
        have hS5 := hSk.marked g5 oldS Ok (Nat.le_refl _)
        have sz5 := Nat.le_trans szk g5.size
        clear own5 b5 g5 Ok Mk4 Tk hSk
        go_wp2_with fail
        go_roundw
        case rel => exact ⟨k + 1, X5, cX5, by omega, by go_num, rfl, hS5, M5, O5, T5, sz5⟩
        case measure => simp [intOf]; omega
      · rw [if_neg hy1] at HK
        go_wp2_with (at_builtin; refine appendIntG wr rfl (.tmp 31) (.tmp 33) rfl z3 w4.heap.size (.slice O k cO) k (constL z2 x k) rfl rfl Ok.2 (by omega) szk ?_; intro v5 w5 own5 b5 g5)
        rw [ownBlockOf] at g5
        rw [HK.out] at own5
        obtain ⟨X5, cX5, rfl, O5⟩ := ownOf own5
        have M5 := Mk4.rowed Ok g5
        have T5 := Tk.grown g5 (fun x e => Nat.le_trans sz4 (Ok.rowGe x e))
        have hS5 := hSk.marked g5 oldS Ok (Nat.le_refl _)
        have sz5 := Nat.le_trans szk g5.size
        clear own5 b5 g5 Ok Mk4 Tk hSk
        go_wp2_with fail
        go_roundw
        case rel => exact ⟨k + 1, X5, cX5, by omega, by go_num, rfl, hS5, M5, O5, T5, sz5⟩
        case measure => simp [intOf]; omega
    · obtain rfl : k = m := by omega
      go_wp2_with fail
      go_ret
      refine ⟨R3, c3, O, cO, rfl, ?_, ?_, Tk⟩
      · rw [← hz2.out]; exact Ok.mono sz4
      · rw [← hz2.out]; simpa using Mk4

set_option maxRecDepth 100000 in
set_option maxHeartbeats 2000000 in
theorem spec_ConstantCircuit (x y : Int) (RC : Ci) (rb : Bool) (w : World) (_hx : I64 x) (_hy : I64 y) (hm : m_ConstantCircuit x y = (RC, rb)) :
    Calls Try.prog 33 #[.int .i64 x, .int .i64 y] w fun e w' => ∃ u, e = .returned (.tuple #[u, .bool rb]) ∧ HasC w' u RC ∧ RC.gs.length ≤ 1048576 ∧ RC.os.length ≤ 1048576 ∧ Below w.heap.size w w' := by
  have HSz := Lib.hid (const_small hm)
  have r1 := Blk.new w #[.int .i64 0, .int .i64 0, .slice none 0 0, .slice none 0 0] 25
  have b1 := belowNew w (.cells #[.int .i64 0, .int .i64 0, .slice none 0 0, .slice none 0 0] 25)
  obtain ⟨w1, hw1⟩ : ∃ W, W = w.alloc (.cells #[.int .i64 0, .int .i64 0, .slice none 0 0, .slice none 0 0] 25) := ⟨_, rfl⟩
  have s1 : w1.heap.size = w.heap.size + 1 := by rw [hw1]; simp
  rw [← hw1] at r1 b1
  rcases const_cases x y with ⟨hno, hv⟩ | ⟨m, rfl, m1, m16, x0, x1, hwd, hv⟩
  · rw [hv] at hm
    obtain ⟨rfl, rfl⟩ := Prod.mk.inj hm
    clear hm hv s1
    have hx : y < 1 ∨ ¬ y < 1 ∧ wordB x y = false := by simp [constB] at hno; by_cases h : y < 1; exact .inl h; exact .inr ⟨h, by simpa using hno (by omega)⟩
    have HW : Hid (wordB x y = false → Calls Try.prog 64 #[.int .i64 x, .int .i64 y] w1 fun e w' => e = .returned (.bool false) ∧ w1 = w') := fun h => btWord_any x y false w1 h
    have f0 := r1.free 0
    have f1 := r1.free 1
    have f2 := r1.free 2
    have f3 := r1.free 3
    obtain ⟨z0, z1, z2, z3⟩ := r1.four
    obtain ⟨y7, o7, B7⟩ := fourSet (a := .int .i64 0) (b := .int .i64 0) (c := .slice none 0 0) (d := .slice none 0 0) (zeroOwnZ w1 (w.heap.size + 1)) r1 (Nat.lt_succ_self _) b1 (by omega)
    obtain ⟨e0, e1, e2, e3⟩ := y7.four
    have HY := Lib.hid (And.intro o7 B7)
    clear r1 b1 y7 o7 B7
    clear hno
    rcases hx with hx | ⟨hx, hx2⟩
    · go_enter Try.func33, Try.ntmps33
      go_upto_region 1 with fail
      rw [← hw1]
      clear hw1 HW
      go_wp2_with fail
      refine bodyPost_ret (v := .tuple #[.agg #[.int .i64 0, .int .i64 0, .slice none 0 0, .slice none 0 0], .bool false]) (by simp [results, Try.results33, go_sem, e0, e1, e2, e3]) rfl ⟨_, rfl, HY.out.1.has, HSz.out.1, HSz.out.2, HY.out.2⟩
    · have HV := Lib.hid (HW.out hx2)
      clear HW hx2
      go_enter Try.func33, Try.ntmps33
      go_upto_region 1 with fail
      rw [← hw1]
      clear hw1
      go_wp2_with fail
      refine (HV.out).mono ?_
      rintro e w3 ⟨rfl, rfl⟩
      go_wp2_with fail
      refine bodyPost_ret (v := .tuple #[.agg #[.int .i64 0, .int .i64 0, .slice none 0 0, .slice none 0 0], .bool false]) (by simp [results, Try.results33, go_sem, e0, e1, e2, e3]) rfl ⟨_, rfl, HY.out.1.has, HSz.out.1, HSz.out.2, HY.out.2⟩
  · rw [hv] at hm
    obtain ⟨rfl, rfl⟩ := Prod.mk.inj hm
    have HW := Lib.hid (btWord_any x (m : Int) true w1 hwd)
    have HS1 := Lib.hid s1
    have c1 : ¬ (m : Int) < 1 := by omega
    have l1 : w.heap.size < w1.heap.size := by omega
    clear hm hv s1 hwd
    go_enter Try.func33, Try.ntmps33
    go_upto_region 1 with fail
    rw [← hw1]
    clear hw1
    go_wp2_with fail
    refine (HW.out).mono ?_
    rintro e w3 ⟨rfl, rfl⟩
    go_wp2_with fail
    refine call_eq (args1 := #[.int .i64 ((0 : Nat) : Int), .int .i64 ((0 : Nat) : Int)]) (w1 := w1) (by simp) rfl (Calls.mono (ciNew_any 0 0 w1) ?_)
    rintro e w2 ⟨q, rfl, M2, b2⟩
    have r2 := r1.below' b2
    have B2 := b1.trans (b2.mono b1.size)
    clear r1 b1
    go_wp2_with fail
    refine (gdConst_any x m x0 x1 m16 q w1.heap.size 0 0 none 0 0 [] w2 M2 (by omega) (by omega) (by omega)).mono ?_
    rintro e w5 ⟨R5, c5, O5, d5, rfl, o5, M5, t5⟩
    have r5 := r2.mk t5 M2 (by decide) (by decide)
    have B5 : Below w.heap.size w w5 := B2.trans (t5.below M2 (by omega))
    have l4 := M2.base
    have hq : q ≠ w.heap.size := by omega
    have l5 : w1.heap.size ≤ w2.heap.size := b2.size
    obtain ⟨y6, o6, B6⟩ := M5.done (o5.mono l5) (by omega) B5
    have f5 := M5.blk.free 3
    have x5 := M5.blk.cell (i := 3) rfl
    have r6 := r5.other hq 3 (.slice O5 m d5)
    obtain ⟨w6, hw6⟩ : ∃ W, W = w5.setCell ⟨q, 3, none⟩ (.slice O5 m d5) := ⟨_, rfl⟩
    rw [← hw6] at y6 o6 B6 r6
    rw [show ((0 : Nat) : Int) = 0 from rfl] at y6 o6
    clear r2 B2 M2 t5 r5 M5 o5 B5 b2
    go_upto_region 5 with fail
    rw [← hw6]
    clear hw6 f5 x5
    obtain ⟨k0, k1, k2, k3⟩ := y6.four
    obtain ⟨z0, z1, z2, z3⟩ := r6.four
    have f0 := r6.free 0
    have f1 := r6.free 1
    have f2 := r6.free 2
    have f3 := r6.free 3
    obtain ⟨y7, o7, B7⟩ := fourSet (a := .int .i64 0) (b := .int .i64 0) (c := .slice R5 (0 + 2) c5) (d := .slice O5 m d5) o6 r6 (by omega) B6 (Nat.le_refl _)
    obtain ⟨e0, e1, e2, e3⟩ := y7.four
    have HY := Lib.hid (And.intro o7 B7)
    clear y6 o6 B6 r6 y7 o7 B7
    go_wp2_with fail
    refine bodyPost_ret (v := .tuple #[.agg #[.int .i64 0, .int .i64 0, .slice R5 (0 + 2) c5, .slice O5 m d5], .bool true]) (by simp [results, Try.results33, go_sem, e0, e1, e2, e3]) rfl ⟨_, rfl, HY.out.1.has, HSz.out.1, HSz.out.2, HY.out.2⟩

end Go.Proofs.Ytnmjnffnelkciaa
