/- What the model's draws of points and polynomials yield: lists of at most 101 integers; and of what was in memory they turn the reader alone. For every list of bytes. -/
import Derived.Test.YtkmnhdnifpglnaaCur3
import Derived.Test.YtkmnhdnifpglnaaMat7
import Derived.Test.YtkmnhdnifpglnaaGenHelp
import Derived.Deep.DeepCutAuto
namespace Go.Proofs.Ytkmnhdnifpglnaa
open Go.RowKit

theorem results_tmp4 {fn : Func} {t u v x : Tmp} (h : fn.results = #[.tmp t, .tmp u, .tmp v, .tmp x]) (tmps : Array Value) (P : Program) (w : World) :
    (results fn tmps).run P w = .ok (.tuple #[tmps.getD t undef, tmps.getD u undef, tmps.getD v undef, tmps.getD x undef]) w := by
  simp [results, h]

theorem has_any (A : Option Addr) (n c : Nat) (zs : List Int) (x : Int) (w : World) (h : Has w A n zs) (hn : n ≤ 1000) : Calls Try.prog 73 #[.slice A n c, .int .i64 x] w fun e w' => SomeBool w e w' := by
  go_enter Try.func73, Try.ntmps73
  go_wp2
  go_loop [9] (fun i => ∃ k : Nat, k ≤ n ∧ i = .int .i64 k) (fun i => n - (intOf i).toNat)
  case atStart => exact ⟨0, Nat.zero_le _, rfl⟩
  case round =>
    obtain ⟨k, hk, rfl⟩ := hrel
    by_cases hlt : k < n
    · obtain ⟨ad, z, rfl, hc, HZ⟩ := h.elem hlt
      by_cases hz : z = x
      · subst hz
        go_wp2
        go_ret
        exact ⟨true, rfl, rfl⟩
      · have hz' : (z == x) = false := by simpa using hz
        clear hz
        go_wp2
        go_round
        case rel => exact ⟨k + 1, by omega, by go_num⟩
        case measure => simp [intOf]; omega
    · go_wp2
      go_ret
      exact ⟨false, rfl, rfl⟩

set_option maxHeartbeats 1000000 in
theorem elements_any (A : Option Addr) (g n c K : Nat) (bs : List Int) (p m : Int) (w : World) (h : Cur w g A n c bs K) (hK : K ≤ 16777216) (p0 : -300 ≤ p) (p1 : p ≤ 300) (hm0 : -1000 ≤ m) (hm1 : m ≤ 100) :
    Calls Try.prog 58 #[.pointer (some ⟨g, 0, none⟩), .int .i64 p, .int .i64 m] w fun e w' => ∃ R k c', e = .returned (.slice R k c') ∧ k ≤ 100 ∧ Cur w' g A n c bs (K + 400) ∧ w.grownBy w' (some g) ∧ ∃ zs, Own w' w.heap.size R k c' zs := by
  have hgl := h.lt
  go_enter Try.func58, Try.ntmps58
  go_wp2
  go_loopw [2, 7] (fun i v wr => ∃ (j : Nat) (zs : List Int), j ≤ 100 ∧ ((j : Int) ≤ m ∨ j = 0) ∧ i = .int .i64 (m - (j : Int)) ∧ wr.ownsRow w.heap.size 3 1 v j (vals zs) ∧ Cur wr g A n c bs (K + 4 * j) ∧ w.grownBy wr (some g)) (fun i _ _ => (intOf i).toNat)
  case atStart => exact ⟨0, [], by omega, .inr rfl, by simp, World.ownsRow_nil _ _ _ _, h, World.grownBy.refl _ _⟩
  case round =>
    obtain ⟨j, zs, hj, hjm, rfl, hown, hcur, hgr⟩ := hrel
    have hsz := hgr.size
    by_cases hlt : (j : Int) < m
    · go_wp2_with (first
        | (go_at_call 44; refine (element_any A g n c (K + 4 * j) bs p _ hcur (by omega) p0 p1).mono ?_; rintro e w1 ⟨x, rfl, x0, x1, hc1, hg1⟩; have hown1 := ownStays hown hg1 hgl; have hs1 := hg1.size)
        | (at_builtin; refine appendInt w1 rfl (.tmp 12) (.tmp 16) rfl x w.heap.size _ j _ rfl rfl hown1 (by omega) (by omega) ?_; intro v' w2 hown2 hb2))
      go_roundw
      case rel => exact ⟨j + 1, zs ++ [x], by omega, .inl (by omega), by go_num, hown2, (hc1.below hgl hb2), grownThen (hgr.trans hg1) hb2⟩
      case measure => simp [intOf]; omega
    · go_wp2
      go_ret
      obtain ⟨R, c', rfl, ho⟩ := ownOf hown
      exact ⟨R, j, c', rfl, by omega, hcur.more (by omega), hgr, zs, ho⟩

theorem ownSlice {w : World} {B n c : Nat} {R : Option Addr} {zs : List Int} (h : w.ownsRow B 3 1 (.slice R n c) n (vals zs)) : Own w B R n c zs := ⟨by have := h.1; rw [vals_length] at this; omega, h⟩

/-- The length of a slice. -/
def _root_.Go.Value.lenOf : Value → Nat
  | .slice _ n _ => n
  | _ => 0

/-- Two drawn lists. -/
def TwoOwn (w : World) (g : Nat) (A : Option Addr) (n c : Nat) (bs : List Int) (K : Nat) (e : Ending) (w' : World) : Prop :=
  ∃ R k c1 R' k' c2, e = .returned (.tuple #[.slice R k c1, .slice R' k' c2]) ∧ k ≤ 100 ∧ k' ≤ 100 ∧ Cur w' g A n c bs K ∧ w.grownBy w' (some g) ∧ (∃ xs, Own w' w.heap.size R k c1 xs) ∧ ∃ ys, Own w' w.heap.size R' k' c2 ys

set_option maxRecDepth 100000 in
set_option maxHeartbeats 1000000 in
theorem points_any (A : Option Addr) (g n c K : Nat) (bs : List Int) (p : Int) (w : World) (h : Cur w g A n c bs K) (hK : K ≤ 1048576) (p0 : -300 ≤ p) (p1 : p ≤ 300) :
    Calls Try.prog 49 #[.pointer (some ⟨g, 0, none⟩), .int .i64 p] w fun e w' => TwoOwn w g A n c bs (K + 1000) e w' := by
  have hgl := h.lt
  go_enter Try.func49, Try.ntmps49
  go_wp2_with fail
  refine (pick_any A g n c K bs 6 _ h (by omega) (by omega) (by omega)).mono ?_
  rintro e w1 ⟨k0, rfl, k00, k01, hc1, hg1⟩
  have hk6 : k0 ≤ 6 := by omega
  clear k01
  go_wp2
  go_loopw [6, 7] (fun v i wr => ∃ (j q : Nat) (zs : List Int), q ≤ j ∧ j ≤ 6 ∧ (j : Int) ≤ k0 ∧ i = .int .i64 (k0 - (j : Int)) ∧ wr.ownsRow w.heap.size 3 1 v q (vals zs) ∧ Cur wr g A n c bs (K + 2 + 8 * j) ∧ w.grownBy wr (some g)) (fun _ i _ => (intOf i).toNat)
  case atStart => exact ⟨0, 0, [], by omega, by omega, by omega, by simp, World.ownsRow_nil _ _ _ _, hc1, hg1⟩
  case round =>
    obtain ⟨j, q, zs, hqj, hj, hjk, rfl, hown, hcur, hgr⟩ := hrel
    have hsz := hgr.size
    by_cases hlt : (j : Int) < k0
    · go_wp2_with fail
      refine (element_any A g n c (K + 2 + 8 * j) bs p _ hcur (by omega) p0 p1).mono ?_
      rintro e w2 ⟨x, rfl, x0, x1, hc2, hg2⟩
      have hown2 := ownStays hown hg2 hgl
      have hgg := hgr.trans hg2
      have hs2 := hg2.size
      obtain ⟨R, cR, rfl, ho⟩ := ownOf hown2
      go_wp2_with fail
      refine (has_any R q cR zs x w2 ho.has (by omega)).mono ?_
      rintro e w' ⟨b, rfl, rfl⟩
      cases b with
      | false =>
        go_wp2_with (at_builtin; refine appendInt w2 rfl (.tmp 28) (.tmp 30) rfl x w.heap.size _ q _ rfl rfl hown2 (by omega) (by omega) ?_; intro v' w3 hown3 hb3)
        go_roundw
        case rel => exact ⟨j + 1, q + 1, zs ++ [x], by omega, by omega, by omega, by go_num, hown3, (hc2.below hgl hb3).more (by omega), grownThen hgg hb3⟩
        case measure => simp [intOf]; omega
      | true =>
        go_wp2_with fail
        refine (one_any A g n c (K + 2 + 8 * j + 4) bs 16 w2 hc2 (by omega) (by omega) (by omega)).mono ?_
        rintro e w3 ⟨b, rfl, hc3, hg3⟩
        have hown3 := ownStays hown2 hg3 hgl
        have hgg3 := hgg.trans hg3
        have hs3 := hg3.size
        cases b with
        | false =>
          go_wp2
          go_roundw
          case rel => exact ⟨j + 1, q, zs, by omega, by omega, by omega, by go_num, hown3, hc3.more (by omega), hgg3⟩
          case measure => simp [intOf]; omega
        | true =>
          go_wp2_with (at_builtin; refine appendInt w3 rfl (.tmp 28) (.tmp 30) rfl x w.heap.size _ q _ rfl rfl hown3 (by omega) (by omega) ?_; intro v' w4 hown4 hb4)
          go_roundw
          case rel => exact ⟨j + 1, q + 1, zs ++ [x], by omega, by omega, by omega, by go_num, hown4, (hc3.below hgl hb4).more (by omega), grownThen hgg3 hb4⟩
          case measure => simp [intOf]; omega
    · go_wp2_with fail
      refine (one_any A g n c (K + 2 + 8 * j) bs 16 wr hcur (by omega) (by omega) (by omega)).mono ?_
      rintro e w2 ⟨b, rfl, hc2, hg2⟩
      have hown2 := ownStays hown hg2 hgl
      have hgg := hgr.trans hg2
      have hs2 := hg2.size
      cases b with
      | false =>
        obtain ⟨R0, c0, rfl⟩ := sliceOf hown2
        go_wp2_with fail
        refine (one_any A g n c (K + 2 + 8 * j + 2) bs 24 w2 hc2 (by omega) (by omega) (by omega)).mono ?_
        rintro e w8 ⟨b8, rfl, hc8, hg8⟩
        have hown8 := ownStays hown2 hg8 hgl
        have hgg8 := hgg.trans hg8
        have hs8 := hgg8.size
        have ho := ownSlice hown8
        cases b8 with
        | false =>
          go_wp2_with fail
          refine (elements_any A g n c (K + 2 + 8 * j + 2 + 2) bs p (q : Int) w8 hc8 (by omega) p0 p1 (by omega) (by omega)).mono ?_
          rintro e w9 ⟨R9, k9, c9, rfl, hk9, hc9, hg9, zs9, ho9⟩
          have ho9' : Own w9 w.heap.size R0 q c0 _ := ⟨ho.1, ownStays ho.2 hg9 hgl⟩
          go_wp2_with fail
          go_ret2
          exact ⟨R0, q, c0, R9, k9, c9, rfl, by omega, hk9, hc9.more (by omega), hgg8.trans hg9, ⟨_, ho9'⟩, ⟨zs9, ho9.mono hs8⟩⟩
        | true =>
          go_wp2_with fail
          refine (elements_any A g n c (K + 2 + 8 * j + 2 + 2) bs p ((q : Int) + 1) w8 hc8 (by omega) p0 p1 (by omega) (by omega)).mono ?_
          rintro e w9 ⟨R9, k9, c9, rfl, hk9, hc9, hg9, zs9, ho9⟩
          have ho9' : Own w9 w.heap.size R0 q c0 _ := ⟨ho.1, ownStays ho.2 hg9 hgl⟩
          go_wp2_with fail
          go_ret2
          exact ⟨R0, q, c0, R9, k9, c9, rfl, by omega, hk9, hc9.more (by omega), hgg8.trans hg9, ⟨_, ho9'⟩, ⟨zs9, ho9.mono hs8⟩⟩
      | true =>
        by_cases hp13 : 13 < p
        · go_wp2_with fail
          refine (pick_any A g n c (K + 2 + 8 * j + 2) bs 2 w2 hc2 (by omega) (by omega) (by omega)).mono ?_
          rintro e w3 ⟨y, rfl, y0, y1, hc3, hg3⟩
          have hy1 : y ≤ 1 := by omega
          have hgg3 := hgg.trans hg3
          have hc3' := hc3.more (K' := K + 100) (by omega)
          clear y1 hown hown2 hcur hc2 hg2 hgg hc3 hgr
          go_wp2
          go_loopw [6] (fun v wr => ∃ (q : Nat) (zs : List Int), q ≤ 13 ∧ ((q : Int) ≤ 12 + y) ∧ wr.ownsRow w.heap.size 3 1 v q (vals zs) ∧ Cur wr g A n c bs (K + 100) ∧ w.grownBy wr (some g)) (fun v _ => 14 - v.lenOf)
          case atStart => exact ⟨0, [], by omega, by omega, World.ownsRow_nil _ _ _ _, hc3', hgg3⟩
          clear hc3' hgg3
          case round =>
            obtain ⟨q, zs, hq, hqy, hown, hcur, hgr⟩ := hrel
            have hsz := hgr.size
            obtain ⟨R0, c0, rfl⟩ := sliceOf hown
            by_cases hlq : (q : Int) < 12 + y
            · go_wp2_with (at_builtin; refine appendInt wr rfl (.tmp 45) (.tmp 48) rfl (q : Int) w.heap.size _ q _ rfl rfl hown (by omega) hsz ?_; intro v' w4 hown4 hb4)
              obtain ⟨R4, c4, rfl⟩ := sliceOf hown4
              go_roundw
              case rel => exact ⟨q + 1, zs ++ [(q : Int)], by omega, by omega, hown4, hcur.below hgl hb4, grownThen hgr hb4⟩
              case measure => simp [Value.lenOf]; omega
            · go_wp2_with fail
              refine (one_any A g n c (K + 100) bs 24 wr hcur (by omega) (by omega) (by omega)).mono ?_
              rintro e w8 ⟨b8, rfl, hc8, hg8⟩
              have hown8 := ownStays hown hg8 hgl
              have hgg8 := hgr.trans hg8
              have hs8 := hgg8.size
              have ho := ownSlice hown8
              cases b8 with
              | false =>
                go_wp2_with fail
                refine (elements_any A g n c (K + 100 + 2) bs p (q : Int) w8 hc8 (by omega) p0 p1 (by omega) (by omega)).mono ?_
                rintro e w9 ⟨R9, k9, c9, rfl, hk9, hc9, hg9, zs9, ho9⟩
                have ho9' : Own w9 w.heap.size R0 q c0 _ := ⟨ho.1, ownStays ho.2 hg9 hgl⟩
                go_wp2_with fail
                go_ret2
                exact ⟨R0, q, c0, R9, k9, c9, rfl, by omega, hk9, hc9.more (by omega), hgg8.trans hg9, ⟨_, ho9'⟩, ⟨zs9, ho9.mono hs8⟩⟩
              | true =>
                go_wp2_with fail
                refine (elements_any A g n c (K + 100 + 2) bs p ((q : Int) + 1) w8 hc8 (by omega) p0 p1 (by omega) (by omega)).mono ?_
                rintro e w9 ⟨R9, k9, c9, rfl, hk9, hc9, hg9, zs9, ho9⟩
                have ho9' : Own w9 w.heap.size R0 q c0 _ := ⟨ho.1, ownStays ho.2 hg9 hgl⟩
                go_wp2_with fail
                go_ret2
                exact ⟨R0, q, c0, R9, k9, c9, rfl, by omega, hk9, hc9.more (by omega), hgg8.trans hg9, ⟨_, ho9'⟩, ⟨zs9, ho9.mono hs8⟩⟩
        · obtain ⟨R0, c0, rfl⟩ := sliceOf hown2
          go_wp2_with fail
          refine (one_any A g n c (K + 2 + 8 * j + 2) bs 24 w2 hc2 (by omega) (by omega) (by omega)).mono ?_
          rintro e w8 ⟨b8, rfl, hc8, hg8⟩
          have hown8 := ownStays hown2 hg8 hgl
          have hgg8 := hgg.trans hg8
          have hs8 := hgg8.size
          have ho := ownSlice hown8
          cases b8 with
          | false =>
            go_wp2_with fail
            refine (elements_any A g n c (K + 2 + 8 * j + 2 + 2) bs p (q : Int) w8 hc8 (by omega) p0 p1 (by omega) (by omega)).mono ?_
            rintro e w9 ⟨R9, k9, c9, rfl, hk9, hc9, hg9, zs9, ho9⟩
            have ho9' : Own w9 w.heap.size R0 q c0 _ := ⟨ho.1, ownStays ho.2 hg9 hgl⟩
            go_wp2_with fail
            go_ret2
            exact ⟨R0, q, c0, R9, k9, c9, rfl, by omega, hk9, hc9.more (by omega), hgg8.trans hg9, ⟨_, ho9'⟩, ⟨zs9, ho9.mono hs8⟩⟩
          | true =>
            go_wp2_with fail
            refine (elements_any A g n c (K + 2 + 8 * j + 2 + 2) bs p ((q : Int) + 1) w8 hc8 (by omega) p0 p1 (by omega) (by omega)).mono ?_
            rintro e w9 ⟨R9, k9, c9, rfl, hk9, hc9, hg9, zs9, ho9⟩
            have ho9' : Own w9 w.heap.size R0 q c0 _ := ⟨ho.1, ownStays ho.2 hg9 hgl⟩
            go_wp2_with fail
            go_ret2
            exact ⟨R0, q, c0, R9, k9, c9, rfl, by omega, hk9, hc9.more (by omega), hgg8.trans hg9, ⟨_, ho9'⟩, ⟨zs9, ho9.mono hs8⟩⟩

end Go.Proofs.Ytkmnhdnifpglnaa
