/- The program's test of a network: isStep, IsNetwork. For every list of at most 1048576 steps. -/
import Derived.Test.YteiibneaihdmbaaSoM1
import Derived.Deep.DeepCutAuto
namespace Go.Proofs.Yteiibneaihdmbaa
open Go Go.RowKit
set_option maxRecDepth 100000

set_option maxHeartbeats 1000000 in
theorem isStep_any (x u v : Int) (b : Bool) (w : World) (hb : stepOk x (u, v) = b) :
    Calls Try.prog 89 #[.int .i64 x, .agg #[.int .i64 u, .int .i64 v]] w fun e w' => e = .returned (.bool b) ∧ Below w.heap.size w w' := by
  have B1 := belowNew w (.cells #[.int .i64 u, .int .i64 v] 93)
  have HB : Hid ((decide (0 ≤ u) && (decide (u < v) && decide (v < x))) = b) := hb
  clear hb
  by_cases d0 : 0 ≤ u
  · by_cases d1 : u < v
    · have HF : Hid (decide (v < x) = b) := by show _ = _; rw [← HB.out, decide_eq_true d0, decide_eq_true d1, Bool.true_and, Bool.true_and]
      go_enter Try.func89, Try.ntmps89
      go_wp2_with fail
      go_ret
      exact ⟨retBl (by rw [← HF.out]), B1⟩
    · have HF : Hid (false = b) := by show _ = _; rw [← HB.out, decide_eq_false d1]; simp
      go_enter Try.func89, Try.ntmps89
      go_wp2_with fail
      go_ret
      exact ⟨retBl HF.out, B1⟩
  · have HF : Hid (false = b) := by show _ = _; rw [← HB.out, decide_eq_false d0]; simp
    go_enter Try.func89, Try.ntmps89
    go_wp2_with fail
    go_ret
    exact ⟨retBl HF.out, B1⟩

set_option maxHeartbeats 1000000 in
theorem notStep_any (x u v : Int) (b : Bool) (q : Nat) (w : World) (hb : stepOk x (u, v) = b) (hq : Blk w q #[.int .i64 x] 3) :
    Calls Try.prog 88 #[.agg #[.int .i64 u, .int .i64 v], .pointer (some ⟨q, 0, none⟩)] w fun e w' => e = .returned (.bool (!b)) ∧ Below w.heap.size w w' := by
  have B1 := belowNew w (.cells #[.int .i64 u, .int .i64 v] 93)
  have hx : (w.alloc (.cells #[.int .i64 u, .int .i64 v] 93)).cell? ⟨q, 0, none⟩ = some (.int .i64 x) := (hq.alloc _).cell (i := 0) rfl
  have H := Lib.hid (fun w => isStep_any x u v b w hb)
  have c0 : (w.alloc (.cells #[.int .i64 u, .int .i64 v] 93)).cell? ⟨w.heap.size, 0, none⟩ = some (.int .i64 u) := (Blk.new w _ _).cell (i := 0) rfl
  have c1 : (w.alloc (.cells #[.int .i64 u, .int .i64 v] 93)).cell? ⟨w.heap.size, 1, none⟩ = some (.int .i64 v) := (Blk.new w _ _).cell (i := 1) rfl
  obtain ⟨W1, hW1⟩ : ∃ W, W = w.alloc (.cells #[.int .i64 u, .int .i64 v] 93) := ⟨_, rfl⟩
  rw [← hW1] at B1 hx c0 c1
  clear hb hq
  go_enter Try.func88, Try.ntmps88
  go_upto_region 1 with fail
  rw [← hW1]
  clear hW1
  go_wp2_with fail
  refine (H.out _).mono ?_
  rintro e w2 ⟨rfl, b2⟩
  go_wp2_with fail
  go_ret
  exact ⟨rfl, B1.trans (b2.mono B1.size)⟩

set_option maxHeartbeats 1000000 in
/-- The library's search with that closure: the first that is no step. -/
theorem stepIdx_any (q : Nat) (x : Int) (A : Option Addr) (n c : Nat) (l : List St) (b : Bool) (w : World) (hb : okTo x l l.length = b) (h : HasT w A n l) (hn : n ≤ 1048576) (hq : Blk w q #[.int .i64 x] 3) :
    Calls Try.prog 136 #[.slice A n c, .func (.func 88) #[] #[.pointer (some ⟨q, 0, none⟩)]] w fun e w' => ∃ j : Int, e = .returned (.int .i64 j) ∧ decide (0 ≤ j) = (!b) ∧ Below w.heap.size w w' := by
  have HL := Lib.hid h.1
  have HB := Lib.hid hb
  clear hb
  go_enter Try.func136, Try.ntmps136
  go_wp2_with fail
  go_loopw [8] (fun i wr => ∃ k : Nat, k ≤ n ∧ i = .int .i64 k ∧ Hid (okTo x l k = true) ∧ Below w.heap.size w wr) (fun i _ => n - (intOf i).toNat)
  case atStart => exact ⟨0, Nat.zero_le _, rfl, rfl, Below.refl _ _⟩
  case round =>
    obtain ⟨k, hk, rfl, HK, bk⟩ := hrel
    by_cases hlt : k < n
    · obtain ⟨ad, u, v, rfl, hu, hv, HE⟩ := (h.below bk).elem hlt
      have q0 : (0 : Int) ≤ (k : Int) := by omega
      have q1 : (k : Int) < (n : Int) := by omega
      obtain ⟨y, hy⟩ : ∃ y, stepOk x (u, v) = y := ⟨_, rfl⟩
      have HC := Lib.hid (notStep_any x u v y q wr hy (hq.below' bk))
      have HNo : Hid (y = false → false = b) := fun e => by
        rw [← HB.out, HL.out, okTo_no (k := k) (by rw [HE.out, hy]; exact e) n hlt]
      have HYes : Hid (y = true → okTo x l (k + 1) = true) := fun e => okTo_next HK.out (by rw [HE.out, hy]; exact e)
      have BK := Lib.hid bk
      clear hy bk
      cases y with
      | false =>
        obtain rfl : false = b := HNo.out rfl
        go_wp2_with fail
        refine (HC.out).mono ?_
        rintro e w2 ⟨rfl, b2⟩
        go_wp2_with fail
        go_ret
        exact ⟨(k : Int), rfl, by simp, BK.out.trans (b2.mono BK.out.size)⟩
      | true =>
        have HN2 : Hid (okTo x l (k + 1) = true) := HYes.out rfl
        go_wp2_with fail
        refine (HC.out).mono ?_
        rintro e w2 ⟨rfl, b2⟩
        go_wp2_with fail
        go_roundw
        case rel => exact ⟨k + 1, by omega, by go_num, HN2, BK.out.trans (b2.mono BK.out.size)⟩
        case measure => simp [intOf]; omega
    · obtain rfl : k = n := by omega
      obtain rfl : true = b := by rw [← HB.out, HL.out, HK.out]
      go_wp2_with fail
      go_ret
      exact ⟨-1, rfl, rfl, bk⟩

set_option maxHeartbeats 1000000 in
theorem stepAny_any (q : Nat) (x : Int) (A : Option Addr) (n c : Nat) (l : List St) (b : Bool) (w : World) (hb : okTo x l l.length = b) (h : HasT w A n l) (hn : n ≤ 1048576) (hq : Blk w q #[.int .i64 x] 3) :
    Calls Try.prog 87 #[.slice A n c, .func (.func 88) #[] #[.pointer (some ⟨q, 0, none⟩)]] w fun e w' => e = .returned (.bool (!b)) ∧ Below w.heap.size w w' := by
  have HI := Lib.hid (stepIdx_any q x A n c l b w hb h hn hq)
  clear hb h hq
  go_enter Try.func87, Try.ntmps87
  go_wp2_with fail
  refine (HI.out).mono ?_
  rintro e w2 ⟨j, rfl, hj, b2⟩
  have HJ := Lib.hid hj
  clear hj
  go_wp2_with fail
  go_ret
  exact ⟨by rw [← HJ.out]; rfl, b2⟩

set_option maxHeartbeats 1000000 in
theorem isLineCount_any (x : Int) (b : Bool) (w : World) (hb : (decide (1 ≤ x) && decide (x ≤ 12)) = b) :
    Calls Try.prog 86 #[.int .i64 x] w fun e w' => e = .returned (.bool b) ∧ w = w' := by
  have HB := Lib.hid hb
  clear hb
  by_cases d : 1 ≤ x
  · have HF : Hid (decide (x ≤ 12) = b) := by show _ = _; rw [← HB.out, decide_eq_true d, Bool.true_and]
    go_enter Try.func86, Try.ntmps86
    go_wp2_with fail
    go_ret
    exact ⟨retBl (by rw [← HF.out]), rfl⟩
  · have HF : Hid (false = b) := by show _ = _; rw [← HB.out, decide_eq_false d]; rfl
    go_enter Try.func86, Try.ntmps86
    go_wp2_with fail
    go_ret
    exact ⟨retBl HF.out, rfl⟩

set_option maxHeartbeats 2000000 in
theorem isNetwork_any (x : Int) (A : Option Addr) (n c : Nat) (l : List St) (b : Bool) (w : World) (h : HasT w A n l) (hn : n ≤ 1048576) (hb : netB x l = b) :
    Calls Try.prog 27 #[.int .i64 x, .slice A n c] w fun e w' => e = .returned (.bool b) ∧ Below w.heap.size w w' := by
  have HL := Lib.hid h.1
  have HB : Hid (((decide (1 ≤ x) && decide (x ≤ 12)) && (decide (n ≤ 60) && okTo x l l.length)) = b) := by show _ = _; rw [← hb, netB, h.1]
  have B1 := belowNew w (.cells #[.int .i64 x] 3)
  have p1 := Blk.new w #[.int .i64 x] 3
  have h1 := h.below B1
  obtain ⟨W1, hW1⟩ : ∃ W, W = w.alloc (.cells #[.int .i64 x] 3) := ⟨_, rfl⟩
  rw [← hW1] at B1 p1 h1
  have c0 := p1.cell (i := 0) rfl
  obtain ⟨y, hy⟩ : ∃ y, (decide (1 ≤ x) && decide (x ≤ 12)) = y := ⟨_, rfl⟩
  obtain ⟨z, hz⟩ : ∃ z, okTo x l l.length = z := ⟨_, rfl⟩
  have HI := Lib.hid (isLineCount_any x y W1 hy)
  have HS := Lib.hid (stepAny_any w.heap.size x A n c l z W1 hz h1 hn p1)
  rw [hy, hz] at HB
  clear hb h hy hz h1 p1
  cases y with
  | false =>
    obtain rfl : false = b := HB.out
    go_enter Try.func27, Try.ntmps27
    go_wp2_with fail
    rw [← hW1]
    clear hW1
    refine (HI.out).mono ?_
    rintro e w' ⟨rfl, rfl⟩
    go_wp2_with fail
    go_ret
    exact ⟨rfl, B1⟩
  | true =>
    by_cases d : n ≤ 60
    · obtain rfl : z = b := by rw [← HB.out, decide_eq_true d]; simp
      clear HB
      go_enter Try.func27, Try.ntmps27
      go_wp2_with fail
      rw [← hW1]
      clear hW1
      refine (HI.out).mono ?_
      rintro e w' ⟨rfl, rfl⟩
      go_wp2_with fail
      refine (HS.out).mono ?_
      rintro e w2 ⟨rfl, b2⟩
      go_wp2_with fail
      go_ret
      exact ⟨retBl (by simp), B1.trans (b2.mono B1.size)⟩
    · obtain rfl : false = b := by rw [← HB.out, decide_eq_false d]; rfl
      clear HB
      go_enter Try.func27, Try.ntmps27
      go_wp2_with fail
      rw [← hW1]
      clear hW1
      refine (HI.out).mono ?_
      rintro e w' ⟨rfl, rfl⟩
      go_wp2_with fail
      go_ret
      exact ⟨rfl, B1⟩

theorem impl_IsNetwork (x : Int) (A : Option Addr) (n c : Nat) (l : List St) (b : Bool) (w : World) (_hx : I64 x) (h : HasT w A n l) (hn : n ≤ 1048576) (_ : NilOk A n c) (hm : m_IsNetwork x l = b) :
    Calls Try.prog 27 #[.int .i64 x, .slice A n c] w fun e w' => e = .returned (.bool b) ∧ Below w.heap.size w w' := isNetwork_any x A n c l b w h hn hm

end Go.Proofs.Yteiibneaihdmbaa
