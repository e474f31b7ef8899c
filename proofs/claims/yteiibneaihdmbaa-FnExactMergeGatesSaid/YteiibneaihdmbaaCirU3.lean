/- How often wires are read: the program's usesOf, by the library's walk over a list from behind. For every valid circuit. -/
import Derived.Test.YteiibneaihdmbaaCirU2
import Derived.Test.YteiibneaihdmbaaCirI9
import Derived.RangeFuncBox
import Derived.RangeFuncNested
import Derived.RangeFuncLeaves
import Derived.Shelf.Abstract
import Derived.OwnWalkIn
import Derived.TacticsInMore
import Derived.LoopNIn
import Derived.LoopIn
namespace Go.Proofs.Yteiibneaihdmbaa
open Go.RowKit Go.Shelf Go.Maps
set_option maxRecDepth 100000
attribute [local go_sem] Oper.semAt_some

def upTo {α : Type} (f : Nat → α) (k : Nat) : List α := (List.range k).map f
theorem upTo_succ {α : Type} (f : Nat → α) (k : Nat) : upTo f (k + 1) = upTo f k ++ [f k] := by simp [upTo, List.range_succ]
theorem upTo_length {α : Type} (f : Nat → α) (k : Nat) : (upTo f k).length = k := by simp [upTo]

/-- What a round keeps: what lay below n₀, and the cell with the slice. -/
def Kg (n₀ Bs : Nat) (W W' : World) : Prop := Below n₀ W W' ∧ ∀ v, W.cell? ⟨Bs, 0, none⟩ = some v → W'.cell? ⟨Bs, 0, none⟩ = some v
theorem Kg.t {n₀ Bs : Nat} {A B C : World} (h : Kg n₀ Bs A B) (k : Kg n₀ Bs B C) : Kg n₀ Bs A C := ⟨h.1.trans k.1, fun v hv => k.2 v (h.2 v hv)⟩
theorem Kg.b {n₀ Bs : Nat} {w : World} (hn : n₀ ≤ w.heap.size) (W : World) (l : Nat) (o o' : Obj) (hl : w.heap.size ≤ l) (h : W.heap[l]? = some o) (hc : o.isCells = false) (hw : o.isWalk = false) : Kg n₀ Bs W (W.putObj l o') :=
  ⟨belowK_b hn W l o o' hl h hc hw, fun v hv => cell_kept hv (grownBy_putObj' W l o') (fun r e => by cases e; exact ⟨_, h, hc⟩)⟩
def gateV (g : Ga) : Value := .agg #[.int .i64 g.1, .int .i64 g.2.1, .int .i64 g.2.2]

set_option maxRecDepth 100000 in
set_option maxHeartbeats 2000000 in
/-- slices.Backward's closure over gates: for every body of a loop that keeps what lay below n₀ and the cell with the slice. -/
theorem backwardG1_in {α : Type} (encs : α → Array Value) (f : Nat → α) (F : Fence) (m : Nat) (h7 : F.fn 171) (hro : F.round = none) (hm : 1 ≤ m) (l Bs n₀ : Nat) (A : Option Addr) (n c : Nat) (gs : List Ga) (hn : n ≤ 16777216) (hA : 0 < n → ∀ ad : Addr, A = some ad → ad.block < n₀)
    (hf : ∀ k, k < n → encs (f k) = #[.int .i64 ((n : Int) - 1 - (k : Int)), gateV (gs.getD (n - 1 - k) g0)]) (J Jx : List α → World → Prop)
    (hY : ∀ pre x W, J pre W → pre.length < n → YieldAt F (m - 1) Try.prog l (encs x) W fun e W' =>
      (e = .returned (.bool true) ∧ J (pre ++ [x]) W' ∧ Kg n₀ Bs W W') ∨ (e = .returned (.bool false) ∧ Jx (pre ++ [x]) W'))
    (W : World) (hBs : W.cell? ⟨Bs, 0, none⟩ = some (.slice A n c)) (hc : HasG W A n gs) (h0 : J [] W) :
    CallsIn F m Try.prog 171 #[.func (.yield l) #[] #[], .pointer (some ⟨Bs, 0, none⟩)] W fun e W' => (∃ v, e = .returned v) ∧
      ((∃ ys, ys = upTo f n ∧ J ys W') ∨ (∃ pre, (∃ k, k ≤ n ∧ pre = upTo f k) ∧ Jx pre W')) := by
  refine callsIn_of_wp Try.func171 rfl h7 ?_ hro
  simp only [Try.ntmps171, List.size_toArray, List.length_cons, List.length_nil, Nat.reduceAdd, Nat.reduceSub, Array.replicate_succ, Array.replicate_zero, List.push_toArray, List.append_toArray, List.nil_append, List.cons_append]
  have HF := Lib.hid hf
  clear hf
  gi_wp2
  gi_loopw [3] (fun i wr => ∃ k : Nat, k ≤ n ∧ i = .int .i64 ((n : Int) - 1 - (k : Int)) ∧ J (upTo f k) wr ∧ Below n₀ W wr ∧ wr.cell? ⟨Bs, 0, none⟩ = some (.slice A n c))
    (fun i _ => (valInt i + 1).toNat)
  case atStart => exact ⟨0, Nat.zero_le _, by simp, h0, Below.refl _ _, hBs⟩
  case round =>
    obtain ⟨k, hk, rfl, hJs, hnx, hBx⟩ := hrel
    by_cases hlt : k < n
    · obtain ⟨q, hq⟩ : ∃ q : Nat, n = k + 1 + q := ⟨n - k - 1, by omega⟩
      have hq1 : (n : Int) - 1 - (k : Int) = (q : Int) := by omega
      have hq2 : n - 1 - k = q := by omega
      have hqn : q < n := by omega
      have hcx : HasG wr A n gs := hc.keep hnx.size fun ad e _ => hnx.block _ (hA (by omega) ad e)
      obtain ⟨ad, x, y, z, rfl, hgx, hgy, hgz, HE⟩ := hcx.elem hqn
      obtain ⟨fn, tmps, assign, body, hy, hR⟩ := hY _ (f k) wr hJs (by rw [upTo_length]; exact hlt)
      rw [HF.out k hlt, hq1, hq2, HE.out] at hy
      simp only [gateV] at hy
      rw [hq1]
      have HQ := Lib.hid hq
      clear hq hq1 hq2
      gi_wp2
      refine hR.mono ?_
      rintro e W3 (⟨rfl, hJ3, hk3⟩ | ⟨rfl, hJx3⟩)
      · have hB3 := hk3.2 _ hBx
        gi_wp2
        go_roundw
        case rel => exact ⟨k + 1, by omega, by have := HQ.out; go_num, by rw [upTo_succ]; exact hJ3, hnx.trans hk3.1, hB3⟩
        case measure => simp [valInt]
      · gi_wp2
        refine bodyPost_ret (results_none rfl _ _ _) rfl ?_
        exact ⟨⟨_, rfl⟩, .inr ⟨_, ⟨k + 1, by omega, (upTo_succ _ _).symm⟩, hJx3⟩⟩
    · obtain rfl : k = n := by omega
      gi_wp2
      go_end0
      exact ⟨⟨_, rfl⟩, .inl ⟨_, rfl, hJs⟩⟩

set_option maxHeartbeats 1000000 in
/-- slices.Backward over gates: the slice is boxed, and the closure has the box. -/
theorem backwardG_in (F : Fence) (m : Nat) (h5 : F.fn 155) (hro : F.round = none) (A : Option Addr) (n c : Nat) (w : World) :
    CallsIn F m Try.prog 155 #[.slice A n c] w fun e w' => e = .returned (.func (.func 171) #[] #[.pointer (some ⟨w.heap.size, 0, none⟩)]) ∧ w' = w.alloc (.cells #[.slice A n c] 27) := by
  refine callsIn_of_wp Try.func155 rfl h5 ?_ hro
  simp only [Try.ntmps155, List.size_toArray, List.length_cons, List.length_nil, Nat.reduceAdd, Nat.reduceSub, Array.replicate_succ, Array.replicate_zero, List.push_toArray, List.append_toArray, List.nil_append, List.cons_append]
  gi_wp2
  go_ret
  exact ⟨rfl, rfl⟩

theorem backwardG_stops {α : Type} (encs : α → Array Value) (f : Nat → α) (F : Fence) (m : Nat) (h7 : F.fn 171) (hro : F.round = none) (hm : 1 ≤ m) (Bs n₀ : Nat) (A : Option Addr) (n c : Nat) (gs : List Ga) (hn : n ≤ 16777216) (w : World) (hBs : Bs < w.heap.size)
    (hf : ∀ k, k < n → encs (f k) = #[.int .i64 ((n : Int) - 1 - (k : Int)), gateV (gs.getD (n - 1 - k) g0)]) (hA : 0 < n → ∀ ad : Addr, A = some ad → ad.block < n₀) (hc : w.cell? ⟨Bs, 0, none⟩ = some (.slice A n c)) (hI : HasG w A n gs) :
    SeqStopsK F m Try.prog 171 #[.pointer (some ⟨Bs, 0, none⟩)] encs (Kg n₀ Bs) (fun ys => ys = upTo f n) (fun pre => ∃ k, k ≤ n ∧ pre = upTo f k) n w := fun l J Jx W hW _ _ hY h0 =>
  backwardG1_in encs f F m h7 hro hm l Bs n₀ A n c gs hn hA hf J Jx hY W ((hW.cell (p := ⟨Bs, 0, none⟩) hBs).trans hc) (hI.below hW) h0
end Go.Proofs.Yteiibneaihdmbaa
