/- The library's parts of a list (slices.Chunk), collected (slices.Collect). -/
import Derived.Test.YteiibneaihdmbaaSoIN
import Derived.RangeFuncBox
import Derived.RangeFuncNested
import Derived.RangeFuncLeaves
import Derived.Shelf.Abstract
import Derived.OwnWalkIn
import Derived.TacticsInMore
import Derived.LoopNIn
import Derived.LoopIn
import Derived.Shelf.RegionOpen
import Derived.RangeFuncCalls
import Derived.BigQuiet
import Derived.Deep.QuietTactic
import Derived.Maps.AppendAt
import Derived.WalkKit
namespace Go.Proofs.Yteiibneaihdmbaa
open Go Go.RowKit Go.Shelf
set_option maxRecDepth 100000

attribute [local go_sem] Oper.semAt_some

/-- The k-th part. -/
def partV (b wd k : Nat) : Value := .slice (some ⟨b, k * wd, none⟩) wd wd

set_option maxHeartbeats 2000000 in
theorem chunk1_in (F : Fence) (f : Nat) (h7 : F.fn 149) (hro : F.round = none) (hf : 1 ≤ f) (l Bs Bn n₀ b N m wd : Nat) (hN : N = m * wd) (w1 : 1 ≤ wd) (hN2 : N ≤ 1000) (J Jx : List Nat → World → Prop) (W0 : Nat) (hJ : AbidesFrom W0 J)
    (hY : ∀ pre x W, J pre W → pre.length < m → YieldAt F (f - 1) Try.prog l #[partV b wd x] W fun e W' =>
      (e = .returned (.bool true) ∧ J (pre ++ [x]) W' ∧ Below n₀ W W') ∨ (e = .returned (.bool false) ∧ Jx (pre ++ [x]) W'))
    (W : World) (hBs : Bs < n₀) (hBn : Bn < n₀) (hc : W.cell? ⟨Bs, 0, none⟩ = some (.slice (some ⟨b, 0, none⟩) N N)) (hc2 : W.cell? ⟨Bn, 0, none⟩ = some (.int .i64 (wd : Int))) (h0 : J [] W) :
    CallsIn F f Try.prog 149 #[.func (.yield l) #[] #[], .pointer (some ⟨Bs, 0, none⟩), .pointer (some ⟨Bn, 0, none⟩)] W fun e W' => (∃ v, e = .returned v) ∧
      ((∃ ys, ys = List.range m ∧ J ys W') ∨ (∃ pre, (∃ k, k ≤ m ∧ pre = List.range k) ∧ Jx pre W')) := by
  refine callsIn_of_wp Try.func149 rfl h7 ?_ hro
  simp only [Try.ntmps149, List.size_toArray, List.length_cons, List.length_nil, Nat.reduceAdd, Nat.reduceSub, Array.replicate_succ, Array.replicate_zero, List.push_toArray, List.append_toArray, List.nil_append, List.cons_append]
  have hmix : Try.prog.follows .mixedOrders = true := by kernel_rfl
  have HN := Lib.hid hN
  clear hN
  gi_wp2
  gi_loopw [4] (fun i wr => ∃ k p : Nat, k ≤ m ∧ Hid (k * wd = p) ∧ i = .int .i64 (p : Int) ∧ J (List.range k) wr ∧ Below n₀ W wr)
    (fun i _ => N - (intOf i).toNat)
  case atStart => exact ⟨0, 0, Nat.zero_le _, Lib.hid (Nat.zero_mul _), rfl, by simpa using h0, Below.refl _ _⟩
  case round =>
    obtain ⟨k, p, hk, HP, rfl, hJs, hnx⟩ := hrel
    have cs := cellKept hnx hBs hc
    have cn := cellKept hnx hBn hc2
    by_cases hlt : k < m
    · have hpN : p + wd ≤ N := by
        have h1 : (k + 1) * wd ≤ m * wd := Nat.mul_le_mul hlt (Nat.le_refl _)
        rw [Nat.add_mul, Nat.one_mul, HP.out, ← HN.out] at h1
        exact h1
      have HP2 : Hid ((k + 1) * wd = p + wd) := by show _ = _; rw [Nat.add_mul, Nat.one_mul, HP.out]
      have hJd : J (List.range k) wr.drew := hJ _ wr wr.drew none hJs (grownOf ((Below.refl _ wr).drew) none) (fun r e => by cases e)
      have csd : wr.drew.cell? ⟨Bs, 0, none⟩ = some (.slice (some ⟨b, 0, none⟩) N N) := cs
      have cnd : wr.drew.cell? ⟨Bn, 0, none⟩ = some (.int .i64 (wd : Int)) := cn
      obtain ⟨fn, tmps, assign, body, hy, hR⟩ := hY _ k wr.drew hJd (by rw [List.length_range]; exact hlt)
      simp only [partV] at hy
      rw [HP.out] at hy
      have q0 : (0 : Int) ≤ (p : Int) := by omega
      have q1 : (p : Int) < (N : Int) := by omega
      have q2 : (p : Int) ≤ (N : Int) := by omega
      have q3 : (p : Int) + (wd : Int) ≤ (N : Int) := by omega
      have q4 : (p : Int) ≤ (p : Int) + (wd : Int) := by omega
      have q5 : (0 : Int) ≤ (p : Int) + (wd : Int) := by omega
      have hwr : IntKind.i64.wrap ((p : Int) + (wd : Int)) = (p : Int) + (wd : Int) := wrapIn (by omega) (by omega)
      have q6 : ((p : Int) + (wd : Int)).toNat = p + wd := by omega
      have q7 : p + wd - p = wd := by omega
      have q8 : (wd : Int) ≤ ((N - p : Nat) : Int) := by omega
      have q9 : ¬ (((N - p : Nat) : Int) < (wd : Int)) := by omega
      have q13 : ¬ N - p < wd := by omega
      have q10 : ¬ N = p := by omega
      have q11 : p ≤ N := by omega
      have q12 : p < N := by omega
      gi_wp2
      gi_region_o
      all_goals
        gi_wp2
        refine hR.mono ?_
        rintro e W3 (⟨rfl, hJ3, hk3⟩ | ⟨rfl, hJx3⟩)
        · have hnx3 := (hnx.drew).trans hk3
          have c3 := cellKept hnx3 hBn hc2
          gi_wp2
          go_roundw
          case rel => exact ⟨k + 1, p + wd, by omega, HP2, by go_num, by rw [List.range_succ]; exact hJ3, hnx3⟩
          case measure => simp [intOf]; omega
        · gi_wp2
          refine bodyPost_ret (results_none rfl _ _ _) rfl ?_
          exact ⟨⟨_, rfl⟩, .inr ⟨_, ⟨k + 1, by omega, List.range_succ.symm⟩, hJx3⟩⟩
    · obtain rfl : k = m := by omega
      obtain rfl : N = p := HN.out.trans HP.out
      gi_wp2
      go_end0
      exact ⟨⟨_, rfl⟩, .inl ⟨_, rfl, hJs⟩⟩

theorem chunk_stops (F : Fence) (f : Nat) (h7 : F.fn 149) (hro : F.round = none) (hf : 1 ≤ f) (Bs Bn n₀ b N m wd : Nat) (hN : N = m * wd) (w1 : 1 ≤ wd) (hN2 : N ≤ 1000) (w : World) (hBs : Bs < n₀) (hBn : Bn < n₀) (hn0 : n₀ ≤ w.heap.size)
    (hc : w.cell? ⟨Bs, 0, none⟩ = some (.slice (some ⟨b, 0, none⟩) N N)) (hc2 : w.cell? ⟨Bn, 0, none⟩ = some (.int .i64 (wd : Int))) :
    SeqStopsK F f Try.prog 149 #[.pointer (some ⟨Bs, 0, none⟩), .pointer (some ⟨Bn, 0, none⟩)] (fun x : Nat => #[partV b wd x]) (Below n₀) (fun ys => ys = List.range m) (fun pre => ∃ k, k ≤ m ∧ pre = List.range k) m w := fun l J Jx W hW hJ _ hY h0 =>
  chunk1_in F f h7 hro hf l Bs Bn n₀ b N m wd hN w1 hN2 J Jx W.heap.size hJ hY W hBs hBn ((hW.cell (p := ⟨Bs, 0, none⟩) (by show Bs < _; omega)).trans hc) ((hW.cell (p := ⟨Bn, 0, none⟩) (by show Bn < _; omega)).trans hc2) h0

set_option maxHeartbeats 2000000 in
theorem appendSeq_in (F : Fence) (f : Nat) (h3 : F.fn 148) (h7 : F.fn 149) (hro : F.round = none) (hf : 3 ≤ f) (Bs Bn b N m wd : Nat) (hN : N = m * wd) (w1 : 1 ≤ wd) (hN2 : N ≤ 1000) (hm : m ≤ 1000) (w : World) (hBs : Bs < w.heap.size) (hBn : Bn < w.heap.size)
    (hc : w.cell? ⟨Bs, 0, none⟩ = some (.slice (some ⟨b, 0, none⟩) N N)) (hc2 : w.cell? ⟨Bn, 0, none⟩ = some (.int .i64 (wd : Int))) :
    CallsIn F f Try.prog 148 #[.slice none 0 0, .func (.func 149) #[] #[.pointer (some ⟨Bs, 0, none⟩), .pointer (some ⟨Bn, 0, none⟩)]] w fun e W' => ∃ v, e = .returned v ∧ W'.ownsRow w.heap.size 23 1 v m ((List.range m).map (partV b wd)) ∧ Below w.heap.size w W' := by
  have h1 : 1 ≤ f := by omega
  obtain ⟨i0, hi, hz0, hz1, hz2⟩ := info_parts infoRow
  refine callsIn_of_wp_marks Try.func148 rfl h3 ?_ hro
  simp only [Try.ntmps148, List.size_toArray, List.length_cons, List.length_nil, Nat.reduceAdd, Nat.reduceSub, Array.replicate_succ, Array.replicate_zero, List.push_toArray, List.append_toArray, List.nil_append, List.cons_append]
  gi_wp2
  have bO := Boxed.new w 53 (.slice none 0 0)
  have hB0 : Below w.heap.size w (w.alloc (.cells #[.slice none 0 0] 53)) := (Below.refl _ w).alloc (Nat.le_refl _) _
  refine wpIn_rangeFunc_ownG hro h1 (gf := 149) (lb := #[.pointer (some ⟨Bs, 0, none⟩), .pointer (some ⟨Bn, 0, none⟩)]) rfl h7 (enters_of Try.func149 (by kernel_rfl) rfl)
    (chunk_stops F (f - 1) h7 hro (by omega) Bs Bn w.heap.size b N m wd hN w1 hN2 _ hBs hBn (by simp) (cellKept hB0 hBs hc) (cellKept hB0 hBn hc2)) belowK_t (belowK_b (by simp)) (Below.refl _ _) (fun _ => rfl)
    (fun pre W => (∃ v, Boxed W w.heap.size 53 v ∧ W.ownsRow w.heap.size 23 1 v pre.length (pre.map (partV b wd)) ∧ True) ∧ Below w.heap.size w W)
    (fun _ _ _ => False)
    (OwnFrom.and (Own.from (holdsRow_own w.heap.size w.heap.size 53 23 1 (fun pre : List Nat => pre.length) (fun pre => pre.map (partV b wd)) (fun _ _ => True)) _) (ownFrom_below (Nat.le_refl _) (by simp)))
    (fun _ _ _ _ _ hs _ _ => hs)
    ⟨⟨_, bO, World.ownsRow_nil _ _ _ _, trivial⟩, hB0⟩
    (fun x => { tmps := #[.slice none 0 0, .func (.func 149) #[] #[.pointer (some ⟨Bs, 0, none⟩), .pointer (some ⟨Bn, 0, none⟩)], .pointer (some ⟨w.heap.size, 0, none⟩), undef, .slice none 0 0, partV b wd x, .func (.func 149) #[] #[.pointer (some ⟨Bs, 0, none⟩), .pointer (some ⟨Bn, 0, none⟩)], partV b wd x, undef, undef, undef, undef, undef], defers := [] })
    ?assign ?body ?done ?stop
  case assign =>
    intro l x W K hK
    gi_wp2
    exact hK
  case body =>
    rintro l pre x W ⟨⟨v, hv, hrow, _⟩, hB⟩ hlt
    have hvc := hv.cell
    have hle : w.heap.size ≤ W.heap.size := hB.size
    gi_wp2_with (gi_at_builtin; refine wpListIn_append_own _ rfl _ _ 53 rfl w.heap.size 23 i0 (.slice none 0 0) 1 24 Try.underlying53 hi hz0 hz1 hz2 rfl (by decide) _ _ _ rfl (hrow.alloc _) ⟨W.heap.size, 0, none⟩ 1 1 [partV b wd x] rfl rfl (cell_one_new _ _ _) (by simp [Value.oneCell', partV]) (by simp only [maxLen]; omega) (by omega) (by simp; omega) ?_; intro v' w1 hown' hgrow _; obtain ⟨g', cap', rfl⟩ := ownsRow_succ hown'; obtain ⟨hv1, hv2, hr2, hk2, hb2⟩ := hv.appended (by decide) hrow hle (Nat.le_refl _) hown' hgrow; have hc1 := hv1.cell; have hf1 := hv1.frozen)
    · exact absurd h (by simp [partV])
    refine ⟨hk2.from _, hb2, ⟨_, hv2, by simpa using hr2, trivial⟩, hB.trans hb2⟩
  case done =>
    rintro D ys W hD rfl ⟨⟨v, hv, hrow, _⟩, hB⟩ hK
    have hvc := hv.cell
    rw [List.length_range] at hrow
    gi_wp2
    refine ⟨by simp, .inl ⟨_, _, rfl, run_takeDeferred hK, ?_⟩⟩
    refine ⟨_, results_tmp rfl _ _ _, v, rfl, ownsRow_putObj hrow _ hK rfl, hB.trans (belowK_b (w := w) (Nat.le_refl _) W D _ _ (by simp at hD; omega) hK rfl rfl)⟩
  case stop =>
    rintro D c pre W _ _ h _
    exact h.elim

theorem collect_any (Bs Bn b N m wd : Nat) (hN : N = m * wd) (w1 : 1 ≤ wd) (hN2 : N ≤ 1000) (hm : m ≤ 1000) (w : World) (hBs : Bs < w.heap.size) (hBn : Bn < w.heap.size)
    (hc : w.cell? ⟨Bs, 0, none⟩ = some (.slice (some ⟨b, 0, none⟩) N N)) (hc2 : w.cell? ⟨Bn, 0, none⟩ = some (.int .i64 (wd : Int))) :
    Calls Try.prog 113 #[.func (.func 149) #[] #[.pointer (some ⟨Bs, 0, none⟩), .pointer (some ⟨Bn, 0, none⟩)]] w fun e W' => ∃ v, e = .returned v ∧ W'.ownsRow w.heap.size 23 1 v m ((List.range m).map (partV b wd)) ∧ Below w.heap.size w W' := by
  have HC := Lib.hid (callsIn_wide.1 (appendSeq_in Fence.wide 5 trivial trivial rfl (by omega) Bs Bn b N m wd hN w1 hN2 hm w hBs hBn hc hc2))
  go_enter Try.func113, Try.ntmps113
  go_wp2_with fail
  refine (HC.out).mono ?_
  rintro e w2 ⟨v, rfl, h1, h2⟩
  go_wp2_with fail
  go_ret
  exact ⟨v, rfl, h1, h2⟩

theorem chunk_any (b N wd : Nat) (w1 : 1 ≤ wd) (w : World) :
    Calls Try.prog 114 #[.slice (some ⟨b, 0, none⟩) N N, .int .i64 (wd : Int)] w fun e w' => ∃ Bs Bn, e = .returned (.func (.func 149) #[] #[.pointer (some ⟨Bs, 0, none⟩), .pointer (some ⟨Bn, 0, none⟩)]) ∧ Bs < w'.heap.size ∧ Bn < w'.heap.size ∧ w'.cell? ⟨Bs, 0, none⟩ = some (.slice (some ⟨b, 0, none⟩) N N) ∧ w'.cell? ⟨Bn, 0, none⟩ = some (.int .i64 (wd : Int)) ∧ Below w.heap.size w w' := by
  have y1 := Blk.new w #[.slice (some ⟨b, 0, none⟩) N N] 23
  have b1 := belowNew w (.cells #[.slice (some ⟨b, 0, none⟩) N N] 23)
  obtain ⟨w2, hw2⟩ : ∃ W, W = w.alloc (.cells #[.slice (some ⟨b, 0, none⟩) N N] 23) := ⟨_, rfl⟩
  have s1 : w2.heap.size = w.heap.size + 1 := by rw [hw2]; simp
  rw [← hw2] at y1 b1
  have y2 := Blk.newAt (k := w.heap.size + 1) w2 #[.int .i64 (wd : Int)] 3 s1.symm
  have b2 := belowNew w2 (.cells #[.int .i64 (wd : Int)] 3)
  have z1 := y1.below' b2
  have B2 := b1.trans (b2.mono b1.size)
  obtain ⟨w3, hw3⟩ : ∃ W, W = w2.alloc (.cells #[.int .i64 (wd : Int)] 3) := ⟨_, rfl⟩
  have s2 : w3.heap.size = w.heap.size + 2 := by rw [hw3]; simp [s1]
  rw [← hw3] at y2 z1 B2
  have cb := y2.cell (i := 0) rfl
  have hn1 : ¬ ((wd : Int) < 1) := by omega
  go_enter Try.func114, Try.ntmps114
  go_upto_region 1 with fail
  rw [← hw2, ← hw3]
  clear hw2 hw3
  go_wp2_with fail
  go_ret
  exact ⟨w.heap.size, w.heap.size + 1, rfl, by omega, by omega, z1.cell (i := 0) rfl, cb, B2⟩

/-- The parts of a row of wires, as rows under a maker. -/
theorem parts_mat {w : World} {S b N m wd : Nat} {v : Value} {us : List Int} (hN : N = m * wd) (h : w.ownsRow S 23 1 v m ((List.range m).map (partV b wd))) (hu : HasI w (some ⟨b, 0, none⟩) N us) :
    ∃ A c, v = .slice A m c ∧ MatS w S A m c wd (fun k => (us.drop (k * wd)).take wd) := by
  obtain ⟨A, c, rfl⟩ := sliceOf h
  refine ⟨A, c, rfl, _, h, fun k hk => ⟨some ⟨b, k * wd, none⟩, wd, ?_, ?_⟩⟩
  · rw [List.getElem?_map, List.getElem?_range hk]
    rfl
  · have hkN : k * wd + wd ≤ N := by
      have h1 : (k + 1) * wd ≤ m * wd := Nat.mul_le_mul hk (Nat.le_refl _)
      rw [Nat.add_mul, Nat.one_mul, ← hN] at h1
      exact h1
    by_cases h0 : wd = 0
    · subst h0
      refine ⟨⟨by simp, fun h => absurd h (by omega)⟩, fun _ h => absurd h (by omega)⟩
    · have := (hu.drop (k := k * wd) (by omega)).take (k := wd) (by omega)
      rw [addG] at this
      exact this

end Go.Proofs.Yteiibneaihdmbaa
