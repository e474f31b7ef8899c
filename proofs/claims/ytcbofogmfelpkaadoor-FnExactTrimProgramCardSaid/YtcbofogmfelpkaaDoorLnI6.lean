/- The program's test of a line by itself, whole. For names of at most 16777216 bytes. The forms of the lines and the words of the operations are as start-up lays them. -/
import Derived.Test.YtcbofogmfelpkaaDoorLnI4
import Derived.Test.YtcbofogmfelpkaaDoorLnI5
namespace Go.Proofs.YtcbofogmfelpkaaDoor
open Go Go.RowKit Go.Shelf
set_option maxRecDepth 100000

/-- The fields of a line by itself are as its kind requires, and there are as many parts. -/
def lineOk (x : Ln) : Bool := decide ((0 ≤ x.kind ∧ x.kind < 7) ∧ (x.parts.length : Int) = partsK x.kind) && kindOk x.kind x.name x.op x.party x.width x.value

set_option maxRecDepth 100000 in
set_option maxHeartbeats 4000000 in
theorem isLine_out (kd : Int) (nm o : ByteArray) (P : Option Addr) (m d : Nat) (py wd vl : Int) (w : World) (hk : (decide (0 ≤ kd) && decide (kd < 7)) = false) :
    Calls Tryd.prog 79 #[.agg #[.int .i64 kd, .string nm, .string o, .slice P m d, .int .i64 py, .int .i64 wd, .int .i64 vl]] w fun e w' => e = .returned (.bool false) ∧ Below w.heap.size w w' := by
  have b1 := belowNew w (.cells #[.int .i64 kd, .string nm, .string o, .slice P m d, .int .i64 py, .int .i64 wd, .int .i64 vl] 53)
  have y1 := Blk.new w #[.int .i64 kd, .string nm, .string o, .slice P m d, .int .i64 py, .int .i64 wd, .int .i64 vl] 53
  obtain ⟨W1, hW1⟩ : ∃ W, W = w.alloc (.cells #[.int .i64 kd, .string nm, .string o, .slice P m d, .int .i64 py, .int .i64 wd, .int .i64 vl] 53) := ⟨_, rfl⟩
  rw [← hW1] at b1 y1
  have HI : Hid (∀ (W : World), Calls Tryd.prog 58 #[.int .i64 kd, .int .i64 7] W fun e w' => e = .returned (.bool false) ∧ w' = W) :=
    fun W => (isBelowL_any kd 7 false W hk).mono fun _ _ ⟨h1, h2⟩ => ⟨h1, h2.symm⟩
  have HB1 := Lib.hid b1
  obtain ⟨⟨k0, k1, k2, k3, k4, k5, k6⟩, _⟩ := y1.seven
  clear hk y1 b1
  go_enter Tryd.func79, Tryd.ntmps79
  go_upto_region 1 with fail
  rw [← hW1]
  clear hW1
  go_quiet ((go_at_call 58; exact Calls.quiet_of_same (HI.out _)))
  go_wp2_with fail
  go_ret
  exact ⟨rfl, below_drewN HB1.out _⟩

set_option maxRecDepth 100000 in
set_option maxHeartbeats 4000000 in
theorem isLine_count (k : Nat) (hk : k < 7) (nm o : ByteArray) (P : Option Addr) (m d : Nat) (py wd vl : Int) (w : World) (hF : Forms w) (hm : ¬ (m : Int) = partsK (k : Int)) :
    Calls Tryd.prog 79 #[.agg #[.int .i64 (k : Int), .string nm, .string o, .slice P m d, .int .i64 py, .int .i64 wd, .int .i64 vl]] w fun e w' => e = .returned (.bool false) ∧ Below w.heap.size w w' := by
  have b1 := belowNew w (.cells #[.int .i64 (k : Int), .string nm, .string o, .slice P m d, .int .i64 py, .int .i64 wd, .int .i64 vl] 53)
  have y1 := Blk.new w #[.int .i64 (k : Int), .string nm, .string o, .slice P m d, .int .i64 py, .int .i64 wd, .int .i64 vl] 53
  obtain ⟨z, hz⟩ : ∃ z, partsK (k : Int) = z := ⟨_, rfl⟩
  rw [hz] at hm
  have gf : w.cell? ⟨1, k * 3 + 2, none⟩ = some (.int .i64 z) := by have h := hF k hk; rw [← hz]; exact h.2.2
  have gl : 1 < w.heap.size := World.block_lt_of_cell? w _ gf
  have gf1 : (w.alloc (.cells #[.int .i64 (k : Int), .string nm, .string o, .slice P m d, .int .i64 py, .int .i64 wd, .int .i64 vl] 53)).cell? ⟨1, k * 3 + 2, none⟩ = some (.int .i64 z) := by have h := hF.below b1 k hk; rw [← hz]; exact h.2.2
  obtain ⟨W1, hW1⟩ : ∃ W, W = w.alloc (.cells #[.int .i64 (k : Int), .string nm, .string o, .slice P m d, .int .i64 py, .int .i64 wd, .int .i64 vl] 53) := ⟨_, rfl⟩
  rw [← hW1] at b1 y1 gf1
  have hk7 : (decide ((0 : Int) ≤ (k : Int)) && decide ((k : Int) < 7)) = true := by simp; omega
  have HI : Hid (∀ (W : World), Calls Tryd.prog 58 #[.int .i64 (k : Int), .int .i64 7] W fun e w' => e = .returned (.bool true) ∧ w' = W) :=
    fun W => (isBelowL_any (k : Int) 7 true W hk7).mono fun _ _ ⟨h1, h2⟩ => ⟨h1, h2.symm⟩
  have HB1 := Lib.hid b1
  obtain ⟨⟨k0, k1, k2, k3, k4, k5, k6⟩, _⟩ := y1.seven
  have q0 : (0 : Int) ≤ (k : Int) := by omega
  have q1 : (k : Int) < 7 := by omega
  have hmz : ((m : Int) != z) = true := by simpa using hm
  clear hk7 y1 b1 hz gf hF hm
  go_enter Tryd.func79, Tryd.ntmps79
  go_upto_region 1 with fail
  rw [← hW1]
  clear hW1
  go_quiet ((go_at_call 58; exact Calls.quiet_of_same (HI.out _)))
  go_wp2_with fail
  go_ret
  exact ⟨rfl, below_drewN HB1.out _⟩

set_option maxRecDepth 100000 in
set_option maxHeartbeats 4000000 in
theorem isLine_0 (nm o : ByteArray) (P : Option Addr) (d : Nat) (py wd vl : Int) (w : World) (hF : Forms w) :
    Calls Tryd.prog 79 #[.agg #[.int .i64 0, .string nm, .string o, .slice P 0 d, .int .i64 py, .int .i64 wd, .int .i64 vl]] w fun e w' => e = .returned (.bool false) ∧ Below w.heap.size w w' := by
  have b1 := belowNew w (.cells #[.int .i64 0, .string nm, .string o, .slice P 0 d, .int .i64 py, .int .i64 wd, .int .i64 vl] 53)
  have y1 := Blk.new w #[.int .i64 0, .string nm, .string o, .slice P 0 d, .int .i64 py, .int .i64 wd, .int .i64 vl] 53
  have gf : w.cell? ⟨1, 2, none⟩ = some (.int .i64 0) := by have h := hF 0 (by omega); exact h.2.2
  have gl : 1 < w.heap.size := World.block_lt_of_cell? w _ gf
  have gf1 : (w.alloc (.cells #[.int .i64 0, .string nm, .string o, .slice P 0 d, .int .i64 py, .int .i64 wd, .int .i64 vl] 53)).cell? ⟨1, 2, none⟩ = some (.int .i64 0) := by have h := hF.below b1 0 (by omega); exact h.2.2
  obtain ⟨W1, hW1⟩ : ∃ W, W = w.alloc (.cells #[.int .i64 0, .string nm, .string o, .slice P 0 d, .int .i64 py, .int .i64 wd, .int .i64 vl] 53) := ⟨_, rfl⟩
  rw [← hW1] at b1 y1 gf1
  have HI : Hid (∀ (W : World), Calls Tryd.prog 58 #[.int .i64 0, .int .i64 7] W fun e w' => e = .returned (.bool true) ∧ w' = W) :=
    fun W => (isBelowL_any 0 7 true W (by decide)).mono fun _ _ ⟨h1, h2⟩ => ⟨h1, h2.symm⟩
  have HB1 := Lib.hid b1
  obtain ⟨⟨k0, k1, k2, k3, k4, k5, k6⟩, _⟩ := y1.seven
  clear y1 b1 gf hF
  go_enter Tryd.func79, Tryd.ntmps79
  go_upto_region 1 with fail
  rw [← hW1]
  clear hW1
  go_quiet ((go_at_call 58; exact Calls.quiet_of_same (HI.out _)))
  go_wp2_with fail
  go_ret
  exact ⟨rfl, below_drewN HB1.out _⟩

theorem isLine_any (x : Ln) (P : Option Addr) (m d : Nat) (w : World) (hp : x.parts.length = m) (hs : x.name.size ≤ 16777216) (hF : Forms w) (hW : OpWords w) :
    Calls Tryd.prog 79 #[.agg #[.int .i64 x.kind, .string x.name, .string x.op, .slice P m d, .int .i64 x.party, .int .i64 x.width, .int .i64 x.value]] w fun e w' => e = .returned (.bool (lineOk x)) ∧ Below w.heap.size w w' := by
  obtain ⟨kd, nm, o, ps, py, wd, vl⟩ := x
  simp only at hp hs ⊢
  by_cases hk : 0 ≤ kd ∧ kd < 7
  · obtain ⟨k, rfl⟩ : ∃ k : Nat, kd = (k : Int) := ⟨kd.toNat, by omega⟩
    have hk7 : k < 7 := by omega
    by_cases hm : (m : Int) = partsK (k : Int)
    · have e : lineOk ⟨(k : Int), nm, o, ps, py, wd, vl⟩ = kindOk (k : Int) nm o py wd vl := by
        rw [lineOk, decide_eq_true (show ((0 : Int) ≤ (k : Int) ∧ (k : Int) < 7) ∧ (ps.length : Int) = partsK (k : Int) from ⟨hk, by rw [hp]; exact hm⟩), Bool.true_and]
      rw [e]
      rcases (by omega : k = 0 ∨ k = 1 ∨ k = 2 ∨ k = 3 ∨ k = 4 ∨ k = 5 ∨ k = 6) with rfl | rfl | rfl | rfl | rfl | rfl | rfl
      · obtain rfl : m = 0 := by have h : (m : Int) = 0 := hm; omega
        exact isLine_0 nm o P d py wd vl w hF
      · obtain rfl : m = 0 := by have h : (m : Int) = 0 := hm; omega
        exact isLine_1 nm o P d py wd vl w hs hF
      · obtain rfl : m = 0 := by have h : (m : Int) = 0 := hm; omega
        exact isLine_2 nm o P d py wd vl w hs hF
      · obtain rfl : m = 2 := by have h : (m : Int) = 2 := hm; omega
        exact isLine_3 nm o P d py wd vl w hs hF hW
      · obtain rfl : m = 1 := by have h : (m : Int) = 1 := hm; omega
        exact isLine_4 nm o P d py wd vl w hs hF
      · obtain rfl : m = 3 := by have h : (m : Int) = 3 := hm; omega
        exact isLine_5 nm o P d py wd vl w hs hF
      · obtain rfl : m = 1 := by have h : (m : Int) = 1 := hm; omega
        exact isLine_6 nm o P d py wd vl w hs hF
    · have e : lineOk ⟨(k : Int), nm, o, ps, py, wd, vl⟩ = false := by
        rw [lineOk, decide_eq_false (fun h => hm (by rw [← hp]; exact h.2)), Bool.false_and]
      rw [e]
      exact isLine_count k hk7 nm o P m d py wd vl w hF hm
  · have e : lineOk ⟨kd, nm, o, ps, py, wd, vl⟩ = false := by
      rw [lineOk, decide_eq_false (fun h => hk h.1), Bool.false_and]
    rw [e]
    exact isLine_out kd nm o P m d py wd vl w (by simp; omega)

end Go.Proofs.YtcbofogmfelpkaaDoor
