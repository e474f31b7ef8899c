/- Counting bits: the mathematics and the model's side. For at most 16 bits. -/
import Derived.Test.YtnmjnffnelkciaaGdG3
import Derived.Test.YtnmjnffnelkciaaBitsAll
import Derived.Deep.DeepCutAuto
namespace Go.Proofs.Ytnmjnffnelkciaa
open Go Go.RowKit
set_option maxRecDepth 100000

theorem cnt_len (N : Nat) (G : List Ga) (bs : List Int) : ∀ k, (cntTo N G bs k).2.length ≤ k + 1
  | 0 => by simp [cntTo]
  | k + 1 => by
    have h := cnt_len N G bs k
    rw [cntTo_succ, cntStep]
    simp only
    split
    · simp [bitTo_sums]; omega
    · rw [bitTo_sums]; omega
theorem cnt_gates (N : Nat) (G : List Ga) (bs : List Int) : ∀ k, k ≤ 16 → (cntTo N G bs k).1.length ≤ G.length + 34 * k
  | 0, _ => by simp [cntTo]
  | k + 1, hk => by
    have h := cnt_gates N G bs k (by omega)
    have h2 := cnt_len N G bs k
    rw [cntTo_succ, cntStep]
    simp only [bitTo_gates]
    omega
theorem bitTo_pre (N : Nat) (G : List Ga) (ss : List Int) (c : Int) {j : Nat} : ∀ {n : Nat}, j < n → (bitTo N G ss c n).2.1.getD j 0 = (bitTo N G ss c (j + 1)).2.1.getD j 0
  | 0, h => absurd h (by omega)
  | n + 1, h => by
    by_cases e : j = n
    · rw [e]
    · rw [← bitTo_pre N G ss c (show j < n by omega), bitTo_succ]
      have hl := bitTo_sums N G ss c n
      simp only [List.getD]
      rw [List.getElem?_append_left (by omega)]
def countC (n : Nat) : Ci := ⟨(n : Int), 0, (cntTo (n + 0) [] (rangeL 0 n) (n - 1)).1, (cntTo (n + 0) [] (rangeL 0 n) (n - 1)).2⟩
def countB (x : Int) : Bool := decide (1 ≤ x) && decide (x ≤ 16)
def m_CountCircuit (x : Int) : Ci × Bool := if countB x = true then (countC x.toNat, true) else (zeroC, false)
theorem count_cases (x : Int) : (countB x = false ∧ m_CountCircuit x = (zeroC, false)) ∨ ∃ m : Nat, x = (m : Int) ∧ 1 ≤ m ∧ m ≤ 16 ∧ countB x = true ∧ m_CountCircuit x = (countC m, true) := by
  cases h : countB x with
  | false => exact .inl ⟨rfl, by rw [m_CountCircuit, h]; rfl⟩
  | true =>
    have h2 : 1 ≤ x ∧ x ≤ 16 := by simpa [countB] using h
    exact .inr ⟨x.toNat, by omega, by omega, by omega, rfl, by rw [m_CountCircuit, h]; rfl⟩
theorem count_small {x : Int} {RC : Ci} {rb : Bool} (hm : m_CountCircuit x = (RC, rb)) : RC.gs.length ≤ 1048576 ∧ RC.os.length ≤ 1048576 := by
  rcases count_cases x with ⟨_, h⟩ | ⟨m, _, _, h16, _, h⟩
  · rw [h] at hm
    obtain ⟨rfl, _⟩ := Prod.mk.inj hm
    exact ⟨by simp [zeroC], by simp [zeroC]⟩
  · rw [h] at hm
    obtain ⟨rfl, _⟩ := Prod.mk.inj hm
    have h1 := cnt_gates (m + 0) [] (rangeL 0 m) (m - 1) (by omega)
    have h2 := cnt_len (m + 0) [] (rangeL 0 m) (m - 1)
    exact ⟨by simp [countC] at h1 ⊢; omega, by simp [countC] at h2 ⊢; omega⟩

set_option maxRecDepth 100000 in
set_option maxHeartbeats 4000000 in
theorem gdCount_any (q B N0 N1 : Nat) (R : Option Addr) (n c : Nat) (G : List Ga) (A : Option Addr) (na ca : Nat) (us : List Int) (w : World) (hM : Mk w 58 q B N0 N1 R n c G) (h0 : N0 ≤ 1000) (h1 : N1 ≤ 1000) (hn : n ≤ 900000) (hA : Own w B A na ca us) (ha0 : 0 < na) (ha : na ≤ 16) :
    Calls Try.prog 60 #[.pointer (some ⟨q, 0, none⟩), .slice A na ca] w fun e w' => ∃ (R' : Option Addr) (n' c' : Nat) (O : Option Addr) (l cO : Nat) (G' : List Ga) (os : List Int), e = .returned (.slice O l cO) ∧ Hid (cntTo (N0 + N1) G us (na - 1) = (G', os)) ∧ Own w' w.heap.size O l cO os ∧ Mk w' 58 q B N0 N1 R' n' c' G' ∧ MkTo q w (blockOf R) w' (blockOf R') := by
  have hI := hA.hasI
  have oldI := hI.old
  have T0 := MkTo.refl q w (blockOf R)
  have HL := Lib.hid hM.len
  obtain ⟨g, rfl⟩ := hA.spot ha0
  have hcap := hA.capLe
  have c0 := hA.cellR (k := 0) ha0
  obtain ⟨e0, he0⟩ : ∃ e0, us.getD 0 0 = e0 := ⟨_, rfl⟩
  rw [he0] at c0
  have b1 := belowNew w (.cells #[.int .i64 e0] 3)
  have o1 : Own (w.alloc (.cells #[.int .i64 e0] 3)) w.heap.size (some ⟨w.heap.size, 0, none⟩) 1 1 [e0] := ⟨rfl, World.ownsRow_lit w #[.int .i64 e0] 1 (Nat.le_refl _) (by decide) rfl⟩
  obtain ⟨w1, hw1⟩ : ∃ W, W = w.alloc (.cells #[.int .i64 e0] 3) := ⟨_, rfl⟩
  rw [← hw1] at b1 o1
  have M1 := hM.below b1
  have T1 := T0.next b1
  have key0 : Hid (cntTo (N0 + N1) G us 0 = (G, [e0])) := by show _ = _; rw [← he0]; rfl
  have i1 : (1 : Int) ≤ (na : Int) := by omega
  have HA := Lib.hid hA
  have HCAP := Lib.hid hcap
  clear he0 b1 hI
  go_enter Try.func60, Try.ntmps60
  go_upto_region 2 with fail
  rw [← hw1]
  clear hw1 c0
  rcases (by omega : ca = 1 ∨ 1 < ca) with rfl | hca
  · go_wp2_with fail
    go_loopw [5, 18] (fun sv iv wr => ∃ (k : Nat) (R' : Option Addr) (n' c' : Nat) (S : Option Addr) (l cS : Nat) (Gk : List Ga) (sk : List Int), k + 1 ≤ na ∧ iv = .int .i64 k ∧ sv = .slice S l cS ∧ Hid (cntTo (N0 + N1) G us k = (Gk, sk)) ∧ Mk wr 58 q B N0 N1 R' n' c' Gk ∧ Own wr w.heap.size S l cS sk ∧ MkTo q w (blockOf R) wr (blockOf R')) (fun _ iv _ => na - 1 - (intOf iv).toNat)
    case atStart => exact ⟨0, R, n, c, _, _, _, G, [e0], by omega, rfl, rfl, key0, M1, o1, T1⟩
    case round =>
      obtain ⟨k, R2, n2, c2, S, l, cS, Gk, sk, hk, rfl, rfl, HS, M2, o2, T2⟩ := hrel
      have hk2 : k + 1 = na := by have := HCAP.out; omega
      have hkl : ¬ k + 1 < na := by omega
      go_wp2_with fail
      go_ret
      refine ⟨R2, n2, c2, S, l, cS, Gk, sk, rfl, ?_, o2, M2, T2⟩
      show _ = _
      rw [← hk2]
      exact HS.out
  · go_wp2_with fail
    go_loopw [5, 18] (fun sv iv wr => ∃ (k : Nat) (R' : Option Addr) (n' c' : Nat) (S : Option Addr) (l cS : Nat) (Gk : List Ga) (sk : List Int), k + 1 ≤ na ∧ iv = .int .i64 k ∧ sv = .slice S l cS ∧ Hid (cntTo (N0 + N1) G us k = (Gk, sk)) ∧ Mk wr 58 q B N0 N1 R' n' c' Gk ∧ Own wr w.heap.size S l cS sk ∧ MkTo q w (blockOf R) wr (blockOf R')) (fun _ iv _ => na - 1 - (intOf iv).toNat)
    case atStart => exact ⟨0, R, n, c, _, _, _, G, [e0], by omega, rfl, rfl, key0, M1, o1, T1⟩
    case round =>
      obtain ⟨k, R2, n2, c2, S, l, cS, Gk, sk, hk, rfl, rfl, HS, M2, o2, T2⟩ := hrel
      by_cases hlt : k + 1 < na
      · have hl : l ≤ k + 1 := by have h3 := cnt_len (N0 + N1) G us k; rw [HS.out] at h3; have := o2.1; simp only at h3; omega
        have hg : n2 ≤ n + 34 * k := by have h3 := cnt_gates (N0 + N1) G us k (by omega); rw [HS.out] at h3; have := M2.len; have := HL.out; simp only at h3; omega
        have cb := (HA.out.mk T2 hM).cellR (k := k + 1) hlt
        obtain ⟨x, hx⟩ : ∃ x, us.getD (k + 1) 0 = x := ⟨_, rfl⟩
        rw [hx] at cb
        have cb2 : wr.cell? ⟨g, 1 + k, none⟩ = some (.int .i64 x) := by rw [Nat.add_comm]; exact cb
        have HX := Lib.hid hx
        have j0 : (0 : Int) ≤ (k : Int) := by omega
        have j1 : (k : Int) < (na : Int) - 1 := by omega
        have j2 : k < na - 1 := by omega
        have j3 : decide (k < na - 1) = true := decide_eq_true j2
        have sz2 := T2.size
        have oS := o2.hasI
        have oldS := oS.old
        have HO2 := Lib.hid o2
        have keyi : Hid (bitTo (N0 + N1) Gk sk x 0 = (Gk, [], x)) := rfl
        have T20 := MkTo.refl q wr (blockOf R2)
        clear hx cb
        go_wp2_with fail
        obtain ⟨wq, hwq⟩ : ∃ W, W = wr := ⟨_, rfl⟩
        go_loopw [7, 8, 25] (fun xv ov iv wy => ∃ (j : Nat) (R' : Option Addr) (n' c' : Nat) (O : Option Addr) (cO : Nat) (Gj : List Ga) (oj : List Int) (z : Int), j ≤ l ∧ iv = .int .i64 j ∧ ov = .slice O j cO ∧ xv = .int .i64 z ∧ Hid (bitTo (N0 + N1) Gk sk x j = (Gj, oj, z)) ∧ n' ≤ n2 + 2 * j ∧ Mk wy 58 q B N0 N1 R' n' c' Gj ∧ Own wy wq.heap.size O j cO oj ∧ HasI wy S l sk ∧ MkTo q wq (blockOf R2) wy (blockOf R')) (fun _ _ iv _ => l - (intOf iv).toNat)
        case atStart => exact ⟨0, R2, n2, c2, none, 0, Gk, [], x, Nat.zero_le _, rfl, rfl, rfl, keyi, by omega, M2, Own.nil_ _ _, oS, by rw [hwq]; exact T20⟩
        case round =>
          obtain ⟨j, R5, n5, c5, O, cO, Gj, oj, z, hj, rfl, rfl, rfl, HSj, hn5, M5, O5, S5, T5⟩ := hrel
          by_cases hjl : j < l
          · obtain ⟨sd, y, rfl, hcy, HY⟩ := S5.1.elem hjl
            have q0 : (0 : Int) ≤ (j : Int) := by omega
            have q1 : (j : Int) < (l : Int) := by omega
            have HG5 := Lib.hid M5.len
            have oldS5 : Old wq.heap.size (some sd) l := by rw [hwq]; exact oldS
            go_wp2_with fail
            refine (mkXor_any y z q B N0 N1 _ _ _ _ _ M5 h0 h1 (by omega)).mono ?_
            rintro e w6 ⟨R6, c6, z6, rfl, hz6, M6, t6⟩
            have T6 := T5.trans t6
            have O6 := O5.mk t6 M5
            have S6 := S5.mk t6 M5
            clear t6 T5 M5 O5 S5
            have sz6 : wq.heap.size ≤ w6.heap.size := T6.size
            go_wp2_with (at_builtin; refine appendIntG w6 rfl (.tmp 29) (.tmp 34) rfl z6 wq.heap.size (.slice O j cO) j oj rfl rfl O6.2 (by omega) sz6 ?_; intro v7 w7 own7 b7 g7)
            rw [ownBlockOf] at g7
            obtain ⟨X7, cX7, rfl, O7⟩ := ownOf own7
            have M7 := M6.rowed O6 g7
            have T7 := T6.grown g7 (O6.rowGe)
            have S7 := S6.marked g7 oldS5 O6 (Nat.le_refl _)
            clear own7 b7 g7 T6 M6 O6 S6
            go_wp2_with fail
            refine (mkAnd_any y z q B N0 N1 _ _ _ _ _ M7 h0 h1 (by omega)).mono ?_
            rintro e w8 ⟨R8, c8, z8, rfl, hz8, M8, t8⟩
            have T8 := T7.trans t8
            have O8 := O7.mk t8 M7
            have S8 := S7.mk t8 M7
            clear t8 T7 M7 O7 S7
            have key : Hid (bitTo (N0 + N1) Gk sk x (j + 1) = (Gj ++ [(0, y, z), (1, y, z)], oj ++ [z6], z8)) := by
              show _ = _
              rw [bitTo_succ, HSj.out]
              simp only
              rw [← HY.out, HG5.out, hz6.out, hz8.out]
              rfl
            clear HSj
            go_wp2_with fail
            go_roundw
            case rel => first | exact ⟨j + 1, R8, n5 + 1 + 1, c8, X7, cX7, _, _, z8, by omega, by go_num, rfl, rfl, key, by omega, by simpa using M8, O8, S8, T8⟩ | ((repeat apply Exists.intro); exact ⟨⟨j + 1, R8, n5 + 1 + 1, c8, X7, cX7, _, _, z8, by omega, by go_num, rfl, rfl, key, by omega, by simpa using M8, O8, S8, T8⟩, rfl⟩)
            case measure => simp [intOf]; omega
          · obtain rfl : j = l := by omega
            have hsl : sk.length = j := HO2.out.1
            have hT6 : MkTo q w (blockOf R) wr (blockOf R5) := T2.trans (by rw [← hwq]; exact T5)
            have j16 : j ≤ 16 := by omega
            have hp := pow16 (k := j) j16
            obtain ⟨pw, hpw⟩ : ∃ pw : Nat, 2 ^ j = pw := ⟨_, rfl⟩
            have hpi : (2 : Int) ^ j = (pw : Int) := by rw [← hpw]; push_cast; rfl
            have szq : w.heap.size ≤ wq.heap.size := by rw [hwq]; exact sz2
            have sz5 := T5.size
            by_cases hle : (2 : Int) ^ j ≤ (k : Int) + 2
            · have key : Hid (cntTo (N0 + N1) G us (k + 1) = (Gj, oj ++ [z])) := by
                show _ = _
                rw [cntTo_succ, HS.out, HX.out, cntStep]
                simp only
                rw [hsl, HSj.out]
                simp only
                rw [if_pos (by rw [hpw]; omega)]
              have HPW := Lib.hid hpw
              have HPI := Lib.hid hpi
              clear hpw hpi HSj HS
              go_wp2_with (at_builtin; refine appendIntG wr rfl (.tmp 48) (.tmp 50) rfl z wq.heap.size (.slice O j cO) j oj rfl rfl O5.2 (by omega) sz5 ?_; intro v9 w9 own9 b9 g9)
              rw [ownBlockOf] at g9
              obtain ⟨X9, cX9, rfl, O9⟩ := ownOf own9
              have M9 := M5.rowed O5 g9
              have T9 := hT6.grown g9 (fun x e => Nat.le_trans szq (O5.rowGe x e))
              have O10 := O9.mono szq
              clear own9 b9 g9 O5 M5 T5 S5 O9 hT6
              go_wp2_with fail
              go_roundw
              case rel => first | exact ⟨k + 1, R5, n5, c5, X9, j + 1, cX9, Gj, _, by omega, by go_num, rfl, key, M9, O10, T9⟩ | ((repeat apply Exists.intro); exact ⟨⟨k + 1, R5, n5, c5, X9, j + 1, cX9, Gj, _, by omega, by go_num, rfl, key, M9, O10, T9⟩, rfl⟩)
              case measure => simp [intOf]; omega
            · have key : Hid (cntTo (N0 + N1) G us (k + 1) = (Gj, oj)) := by
                show _ = _
                rw [cntTo_succ, HS.out, HX.out, cntStep]
                simp only
                rw [hsl, HSj.out]
                simp only
                rw [if_neg (by rw [hpw]; omega)]
              have O10 := O5.mono szq
              clear hpw hpi HSj HS T5 S5 O5
              go_wp2_with fail
              go_roundw
              case rel => first | exact ⟨k + 1, R5, n5, c5, O, j, cO, Gj, _, by omega, by go_num, rfl, key, M5, O10, hT6⟩ | ((repeat apply Exists.intro); exact ⟨⟨k + 1, R5, n5, c5, O, j, cO, Gj, _, by omega, by go_num, rfl, key, M5, O10, hT6⟩, rfl⟩)
              case measure => simp [intOf]; omega
      · have hk2 : k + 1 = na := by omega
        go_wp2_with fail
        go_ret
        refine ⟨R2, n2, c2, S, l, cS, Gk, sk, rfl, ?_, o2, M2, T2⟩
        show _ = _
        rw [← hk2]
        exact HS.out

end Go.Proofs.Ytnmjnffnelkciaa
