/- The program's depths: DepthOf. For every circuit of at most 1048576 gates and outs. -/
import Derived.Test.YtaohgbkhmgfnhaaCirI5
import Derived.Test.YtaohgbkhmgfnhaaCirG7
namespace Go.Proofs.Ytaohgbkhmgfnhaa
open Go.RowKit
set_option maxRecDepth 100000

set_option maxHeartbeats 1000000 in
theorem wiresRead_any (x y z : Int) (w : World) :
    Calls Try.prog 97 #[.agg #[.int .i64 x, .int .i64 y, .int .i64 z]] w fun e w' => ∃ R m c', e = .returned (.slice R m c') ∧ Own w' w.heap.size R m c' (partsOf (x, y, z)) ∧ m ≤ 2 ∧ Below w.heap.size w w' := by
  have B1 := belowNew w (.cells #[.int .i64 x, .int .i64 y, .int .i64 z] 51)
  obtain ⟨W1, hW1⟩ : ∃ W, W = w.alloc (.cells #[.int .i64 x, .int .i64 y, .int .i64 z] 51) := ⟨_, rfl⟩
  have s1 : W1.heap.size = w.heap.size + 1 := by rw [hW1]; simp
  rw [← hW1] at B1
  by_cases c0 : x = 0 ∨ x = 1
  · have e : partsOf (x, y, z) = [y, z] := if_pos c0
    rw [e]
    have own2 : Own (W1.alloc (.cells #[.int .i64 y, .int .i64 z] 3)) W1.heap.size (some ⟨W1.heap.size, 0, none⟩) 2 2 [y, z] := ⟨rfl, World.ownsRow_lit W1 #[.int .i64 y, .int .i64 z] 2 (Nat.le_refl _) (by decide) rfl⟩
    have B2 := B1.trans ((belowNew W1 (.cells #[.int .i64 y, .int .i64 z] 3)).mono B1.size)
    have HO := Lib.hid (own2.mono B1.size)
    rw [hW1] at HO B2
    clear own2
    rcases c0 with rfl | rfl
    all_goals
      go_enter Try.func97, Try.ntmps97
      go_wp2_with fail
      go_ret
      rw [← hW1] at HO B2 ⊢
      exact ⟨_, 2, 2, by rw [← s1]; rfl, HO.out, by omega, B2⟩
  · by_cases c2 : x = 2
    · have e : partsOf (x, y, z) = [y] := by rw [partsOf, if_neg c0, if_pos c2]
      rw [e]
      have own2 : Own (W1.alloc (.cells #[.int .i64 y] 3)) W1.heap.size (some ⟨W1.heap.size, 0, none⟩) 1 1 [y] := ⟨rfl, World.ownsRow_lit W1 #[.int .i64 y] 1 (Nat.le_refl _) (by decide) rfl⟩
      have B2 := B1.trans ((belowNew W1 (.cells #[.int .i64 y] 3)).mono B1.size)
      have HO := Lib.hid (own2.mono B1.size)
      rw [hW1] at HO B2
      clear own2 c0
      subst c2
      go_enter Try.func97, Try.ntmps97
      go_wp2_with fail
      go_ret
      rw [← hW1] at HO B2 ⊢
      exact ⟨_, 1, 1, by rw [← s1]; rfl, HO.out, by omega, B2⟩
    · have e : partsOf (x, y, z) = [] := by rw [partsOf, if_neg c0, if_neg c2]
      rw [e]
      have x0 : x ≠ 0 := fun e => c0 (.inl e)
      have x1 : x ≠ 1 := fun e => c0 (.inr e)
      rw [hW1] at B1
      clear c0 hW1 s1
      go_enter Try.func97, Try.ntmps97
      go_wp2_with fail
      go_ret
      exact ⟨none, 0, 0, rfl, Own.nil_ _ _, by omega, B1⟩

set_option maxHeartbeats 1000000 in
theorem greatestAt_any (A : Option Addr) (n c : Nat) (ds : List Int) (B : Option Addr) (m d : Nat) (is : List Int) (w : World) (hx : Has w A n ds) (_hn : n ≤ 16777216) (hy : Has w B m is) (hm : m ≤ 16777216) (hin : ∀ j, j < is.length → 0 ≤ is.getD j 0 ∧ is.getD j 0 < (n : Int)) :
    Calls Try.prog 96 #[.slice A n c, .slice B m d] w fun e w' => e = .returned (.int .i64 (mostAt ds 0 is)) ∧ w = w' := by
  have HIN := Lib.hid hin
  have HYL := Lib.hid hy.1
  clear hin
  go_enter Try.func96, Try.ntmps96
  go_wp2_with fail
  go_loop [5, 10] (fun g i => ∃ (k : Nat) (t : Int), k ≤ m ∧ i = .int .i64 k ∧ g = .int .i64 t ∧ Hid (t = mostAt ds 0 (is.take k))) (fun _ i => m - (intOf i).toNat)
  case atStart => exact ⟨0, 0, Nat.zero_le _, rfl, rfl, rfl⟩
  case round =>
    obtain ⟨k, t, hk, rfl, rfl, HT⟩ := hrel
    by_cases hlt : k < m
    · obtain ⟨bd, i, rfl, hci, HI⟩ := hy.elem hlt
      obtain ⟨i0, i1⟩ : 0 ≤ i ∧ i < (n : Int) := by rw [HI.out]; exact HIN.out k (by rw [HYL.out]; exact hlt)
      obtain ⟨j, rfl⟩ : ∃ j : Nat, i = (j : Int) := ⟨i.toNat, by omega⟩
      obtain ⟨ad, z, rfl, hcz, HZ⟩ := hx.elem (show j < n by omega)
      have k0 : (0 : Int) ≤ (k : Int) := by omega
      have k1 : (k : Int) < (m : Int) := by omega
      have HS : Hid (mostAt ds 0 (is.take (k + 1)) = mostOf t z) := by
        show _ = _
        rw [mostAt_step _ _ _ _ (by rw [HYL.out]; exact hlt), ← HT.out, ← HI.out, HZ.out]
        rfl
      by_cases hg : z > t
      · have e : mostOf t z = z := if_neg (by omega)
        rw [e] at HS
        clear e
        go_wp2_with fail
        go_round
        case rel => exact ⟨k + 1, z, by omega, by go_num, rfl, HS.out.symm⟩
        case measure => simp [intOf]; omega
      · have e : mostOf t z = t := by unfold mostOf; split <;> omega
        rw [e] at HS
        clear e
        go_wp2_with fail
        go_round
        case rel => exact ⟨k + 1, t, by omega, by go_num, rfl, HS.out.symm⟩
        case measure => simp [intOf]; omega
    · obtain rfl : k = m := by omega
      go_wp2_with fail
      go_ret
      exact ⟨by rw [HT.out, List.take_of_length_le (by rw [HYL.out]; exact Nat.le_refl _)]; rfl, rfl⟩

set_option maxHeartbeats 400000 in
theorem depth1_any (x y z : Int) (w : World) :
    Calls Try.prog 62 #[.agg #[.int .i64 x, .int .i64 y, .int .i64 z]] w fun e w' => e = .returned (.bool true) ∧ Below w.heap.size w w' := by
  have B1 := belowNew w (.cells #[.int .i64 x, .int .i64 y, .int .i64 z] 51)
  go_enter Try.func62, Try.ntmps62
  go_wp2
  go_ret
  exact ⟨rfl, B1⟩

set_option maxHeartbeats 400000 in
theorem depth2_any (x y z : Int) (b : Bool) (w : World) (hb : (x == 1) = b) :
    Calls Try.prog 63 #[.agg #[.int .i64 x, .int .i64 y, .int .i64 z]] w fun e w' => e = .returned (.bool b) ∧ Below w.heap.size w w' := by
  have B1 := belowNew w (.cells #[.int .i64 x, .int .i64 y, .int .i64 z] 51)
  subst hb
  go_enter Try.func63, Try.ntmps63
  go_wp2
  go_ret
  exact ⟨rfl, B1⟩

theorem mapTo_take (f : Nat → Int) {n N : Nat} (h : n ≤ N) : (mapTo f N).take n = mapTo f n := by
  unfold mapTo
  rw [← List.map_take, List.take_range, Nat.min_eq_left h]

/-- make([]int, n, N): what it gives in whatever world. -/
theorem makeRun (L M : Int) (n N : Nat) (hL : L = (n : Int)) (hM : M = (N : Int)) (hnN : n ≤ N) (hN : N ≤ 16777216) :
    ∃ cs : Array Value, (∀ W : World, (Instr.makeSlice 23 (.int .i64 L) (.int .i64 M)).run Try.prog W = .ok (.slice (some ⟨W.heap.size, 0, none⟩) n N) (W.alloc (.cells cs 3))) ∧
      ∀ W : World, Own (W.alloc (.cells cs 3)) W.heap.size (some ⟨W.heap.size, 0, none⟩) n N (mapTo (fun _ => 0) n) := by
  obtain ⟨i0, hi, hz0, hz1, hz2⟩ := info_parts infoInt
  subst hL hM
  refine ⟨madeCells (Value.int .i64 0).cells (N * 1), fun W => ?_, fun W => ⟨mapTo_length _ _, ?_⟩⟩
  · have hr := run_make (P := Try.prog) W 23 3 i0 (.int .i64 0) Try.underlying23 hi hz0 .i64 .i64 (n : Int) (N : Int) (by omega) (by omega) (by rw [hz2]; omega) (by omega)
    simpa only [Int.toNat_natCast, hz1] using hr
  · refine ⟨by rw [vals_length, mapTo_length]; omega, .inr ⟨W.heap.size, N, _, rfl, Nat.le_refl _, heap_alloc_new W _, hnN, by simp only [maxLen]; omega, by rw [size_madeCells], ?_⟩⟩
    rw [zeroCells, Nat.mul_one, vals, ← List.map_take, mapTo_take _ hnN]
    rfl

set_option maxHeartbeats 4000000 in
theorem depthCnt1_any (v : Value) (C : Ci) (w : World) (h : HasC w v C) (hG : Good C) :
    Calls Try.prog 61 #[v, .func (.func 62) #[] #[]] w fun e w' => e = .returned (.int .i64 (mostAt (depC C false) 0 C.os)) ∧ Below w.heap.size w w' := by
  obtain ⟨G, n, c, O, q, d, rfl, hGs, hO, _, _, _, _⟩ := id h
  have hgl := hGs.1
  have hol := hO.1
  have n300 : n ≤ 300 := by have := hG.g; omega
  have q40 : q ≤ 40 := by have := hG.o; omega
  obtain ⟨i0, i1, j0, j1⟩ : 0 ≤ C.in0 ∧ C.in0 ≤ 20 ∧ 0 ≤ C.in1 ∧ C.in1 ≤ 20 := ⟨hG.a0, hG.a1, hG.b0, hG.b1⟩
  obtain ⟨m, hm⟩ : ∃ m, C.ins.toNat = m := ⟨_, rfl⟩
  have hins : C.in0 + C.in1 = (m : Int) := by rw [← hm]; unfold Ci.ins; omega
  have m40 : m ≤ 40 := by omega
  have hdep : depC C false = depTo C false n := by rw [depC, hgl]
  rw [hdep]
  have hwir : C.wires = ((m + n : Nat) : Int) := by unfold Ci.wires; push_cast; omega
  have HGate : Hid (∀ k, k < n → gateOk (((m + k : Nat) : Int)) (C.gs.getD k g0) = true) := fun k hk => by
    have := hG.gate k (by omega)
    unfold Ci.ins at this
    rw [hins] at this
    push_cast
    exact this
  have HLen : Hid (∀ k, (depTo C false k).length = m + k) := fun k => by rw [depTo_length, hm]
  have HD0 : Hid (mapTo (fun _ => 0) m = depTo C false 0) := by show _ = _; rw [depTo, hm]
  have HOut : Hid (∀ j, j < C.os.length → 0 ≤ C.os.getD j 0 ∧ C.os.getD j 0 < ((m + n : Nat) : Int)) := outsIn hG hwir.symm
  have B1 := belowNew w (.cells #[.int .i64 C.in0, .int .i64 C.in1, .slice G n c, .slice O q d] 30)
  have p1 := Blk.new w #[.int .i64 C.in0, .int .i64 C.in1, .slice G n c, .slice O q d] 30
  have h1 := h.below B1
  obtain ⟨W1, hW1⟩ : ∃ W, W = w.alloc (.cells #[.int .i64 C.in0, .int .i64 C.in1, .slice G n c, .slice O q d] 30) := ⟨_, rfl⟩
  rw [← hW1] at B1 p1 h1
  have hlt0 : w.heap.size < W1.heap.size := p1.lt
  have D : Below W1.heap.size W1 W1.drew := (Below.refl _ W1).drew
  have hK : Hid (∀ W', Below W1.heap.size W1 W' → W'.cell? ⟨w.heap.size, 0, none⟩ = some (.int .i64 C.in0) ∧ W'.cell? ⟨w.heap.size, 1, none⟩ = some (.int .i64 C.in1) ∧ W'.cell? ⟨w.heap.size, 2, none⟩ = some (.slice G n c) ∧ W'.cell? ⟨w.heap.size, 3, none⟩ = some (.slice O q d)) := fun W' hb => (p1.below' hb).four
  have HW := Lib.hid (wiresIn_any _ C W1.drew (h1.below D) i0 (by omega) j0 (by omega) (by omega))
  have hwi : IntKind.i64.wrap (C.in0 + C.in1) = C.in0 + C.in1 := wrapIn (by omega) (by omega)
  have HINS := Lib.hid hins
  have HWIR := Lib.hid hwir
  have HP1 := Lib.hid p1
  obtain ⟨cs, hmk, hown⟩ := makeRun (C.in0 + C.in1) C.wires m (m + n) hins hwir (by omega) (by omega)
  have HOwn := Lib.hid hown
  clear hown
  have hO1 := Lib.hid (hO.below B1)
  clear h hG hgl hol hdep hm hins hwir h1 hO
  go_enter Try.func61, Try.ntmps61
  go_wp2_with fail
  rw [← hW1]
  clear hW1 p1
  first
    | go_region_held3 (fun w' => w'.cell? ⟨w.heap.size, 0, none⟩ = some (.int .i64 C.in0) ∧ w'.cell? ⟨w.heap.size, 1, none⟩ = some (.int .i64 C.in1) ∧ w'.cell? ⟨w.heap.size, 2, none⟩ = some (.slice G n c) ∧ w'.cell? ⟨w.heap.size, 3, none⟩ = some (.slice O q d)) (first | exact hK.out _ D | exact hK.out _ Bq | exact hK.out _ (Bq.trans ((belowNew w2 _).mono Bq.size)) | go_keep) (first
        | (go_at_call 47; refine (HW.out).mono ?_; rintro e w2 ⟨rfl, b2⟩; have Bq := D.trans (b2.mono D.size)))
    | fail
  have Br := Bq.trans ((belowNew w2 (.cells cs 3)).mono Bq.size)
  have o3' := (HOwn.out w2).mono Bq.size
  rw [HD0.out] at o3'
  obtain ⟨k0, k1, k2, k3⟩ := hK.out _ Br
  have HBr := Lib.hid Br
  obtain ⟨w3, hw3⟩ : ∃ W, W = w2.alloc (.cells cs 3) := ⟨_, rfl⟩
  rw [← hw3] at o3' k0 k1 k2 k3 HBr ⊢
  clear hwi D b2 Bq Br HW hw3 hmk HOwn
  go_wp2_with fail
  clear k0 k1 k2 k3
  go_loopw [5, 20] (fun vv iv wr => ∃ (k : Nat) (R : Option Addr) (l c' : Nat), k ≤ n ∧ iv = .int .i64 k ∧ vv = .slice R l c' ∧ Own wr W1.heap.size R l c' (depTo C false k) ∧ l = m + k ∧ Below W1.heap.size W1 wr) (fun _ iv _ => n - (intOf iv).toNat)
  case atStart => exact ⟨0, _, m, _, Nat.zero_le _, rfl, rfl, o3', rfl, HBr.out⟩
  case round =>
    obtain ⟨k, R, l, c', hk, rfl, rfl, ho, hlk, bk⟩ := hrel
    have l340 : l ≤ 340 := by omega
    have HLK := Lib.hid hlk
    by_cases hlt : k < n
    · obtain ⟨ad, x, y, z, rfl, hgx, hgy, hgz, HE⟩ := (hGs.below (B1.trans (bk.mono B1.size))).elem hlt
      have hgate := HGate.out k hlt
      rw [HE.out, ← hlk] at hgate
      have HP := Lib.hid (partsOf_in hgate)
      have b4 := belowNew wr (.cells #[.int .i64 x, .int .i64 y, .int .i64 z] 51)
      have y4 := Blk.new wr #[.int .i64 x, .int .i64 y, .int .i64 z] 51
      have ho4 := ho.below b4
      have q0 : (0 : Int) ≤ (k : Int) := by omega
      have q1 : (k : Int) < (n : Int) := by omega
      obtain ⟨w4, hw4⟩ : ∃ W, W = wr.alloc (.cells #[.int .i64 x, .int .i64 y, .int .i64 z] 51) := ⟨_, rfl⟩
      rw [← hw4] at b4 y4 ho4
      have B4 := bk.trans (b4.mono bk.size)
      have g0c := y4.cell (i := 0) rfl
      have g1c := y4.cell (i := 1) rfl
      have g2c := y4.cell (i := 2) rfl
      clear hgate ho b4 bk hlk
      go_upto_region 5 with fail
      rw [← hw4]
      clear hw4 hgx hgy hgz
      go_wp2_with fail
      refine (wiresRead_any x y z w4).mono ?_
      rintro e w5 ⟨R5, np, c5, rfl, o5, np2, b5⟩
      have ho5 := ho4.below b5
      have y5 := y4.below' b5
      have B5 := B4.trans (b5.mono B4.size)
      have hp5 := o5.has
      have hpl := hp5.1
      clear g0c g1c g2c
      have g0c := y5.cell (i := 0) rfl
      have g1c := y5.cell (i := 1) rfl
      have g2c := y5.cell (i := 2) rfl
      have hdr := Lib.hid (depTo_range C false k)
      have HGr := Lib.hid (greatestAt_any R l c' (depTo C false k) R5 np c5 (partsOf (x, y, z)) w5 ho5.has (by omega) hp5 (by omega) HP.out)
      obtain ⟨t, hT⟩ : ∃ t, mostAt (depTo C false k) 0 (partsOf (x, y, z)) = t := ⟨_, rfl⟩
      rw [hT] at HGr
      obtain ⟨t0, t1⟩ : 0 ≤ t ∧ t ≤ (k : Int) := by rw [← hT]; exact mostAt_range hdr.out _ 0 ⟨Int.le_refl _, by omega⟩
      have hwt : IntKind.i64.wrap (t + 1) = t + 1 := wrapIn (by omega) (by omega)
      have HTT := Lib.hid hT
      have HV : Hid (∀ u, u = gdep false (depTo C false k) (x, y, z) → depTo C false k ++ [u] = depTo C false (k + 1)) := fun u hu => by rw [depTo, HE.out, hu]
      clear ho4 y4 B4 b5 o5 hT hp5 hpl
      go_wp2_with fail
      refine (HGr.out).mono ?_
      rintro e w6 ⟨rfl, rfl⟩
      have HQ : Hid (t + 1 = gdep false (depTo C false k) (x, y, z)) := by show _ = _; rw [gdep, if_pos (.inl rfl), HTT.out]
      go_wp2_with fail
      refine (depth1_any x y z w5).mono ?_
      rintro e w7 ⟨rfl, b7⟩
      have own7 := (ho5.below b7).2
      have B7 := B5.trans (b7.mono B5.size)
      have s7 : W1.heap.size ≤ w7.heap.size := B7.size
      clear ho5 b7 B5 y5 g0c g1c g2c
      go_wp2_with (at_builtin; refine appendInt w7 rfl (.tmp 33) (.tmp 35) rfl (t + 1) W1.heap.size _ l _ rfl rfl own7 (by omega) s7 ?_; intro v8 w8 own8 b8)
      rw [HV.out _ HQ.out] at own8
      obtain ⟨R8, c8, rfl, ho8⟩ := ownOf own8
      go_roundw
      case rel => exact ⟨k + 1, R8, l + 1, c8, by omega, by go_num, rfl, ho8, by have := HLK.out; omega, B7.trans b8⟩
      case measure => simp [intOf]; omega
    · obtain rfl : k = n := by omega
      obtain ⟨k0, k1, k2, k3⟩ := hK.out _ bk
      have HGr := Lib.hid (greatestAt_any R l c' (depTo C false k) O q d C.os wr ho.has (by omega) (hO1.out.below bk) (by omega) (by rw [hlk]; exact HOut.out))
      have BK := Lib.hid bk
      clear ho hlk bk
      go_wp2_with fail
      refine (HGr.out).mono ?_
      rintro e w6 ⟨rfl, rfl⟩
      go_wp2_with fail
      go_ret
      exact ⟨rfl, B1.trans (BK.out.mono B1.size)⟩

set_option maxHeartbeats 4000000 in
theorem depthCnt2_any (v : Value) (C : Ci) (w : World) (h : HasC w v C) (hG : Good C) :
    Calls Try.prog 61 #[v, .func (.func 63) #[] #[]] w fun e w' => e = .returned (.int .i64 (mostAt (depC C true) 0 C.os)) ∧ Below w.heap.size w w' := by
  obtain ⟨G, n, c, O, q, d, rfl, hGs, hO, _, _, _, _⟩ := id h
  have hgl := hGs.1
  have hol := hO.1
  have n300 : n ≤ 300 := by have := hG.g; omega
  have q40 : q ≤ 40 := by have := hG.o; omega
  obtain ⟨i0, i1, j0, j1⟩ : 0 ≤ C.in0 ∧ C.in0 ≤ 20 ∧ 0 ≤ C.in1 ∧ C.in1 ≤ 20 := ⟨hG.a0, hG.a1, hG.b0, hG.b1⟩
  obtain ⟨m, hm⟩ : ∃ m, C.ins.toNat = m := ⟨_, rfl⟩
  have hins : C.in0 + C.in1 = (m : Int) := by rw [← hm]; unfold Ci.ins; omega
  have m40 : m ≤ 40 := by omega
  have hdep : depC C true = depTo C true n := by rw [depC, hgl]
  rw [hdep]
  have hwir : C.wires = ((m + n : Nat) : Int) := by unfold Ci.wires; push_cast; omega
  have HGate : Hid (∀ k, k < n → gateOk (((m + k : Nat) : Int)) (C.gs.getD k g0) = true) := fun k hk => by
    have := hG.gate k (by omega)
    unfold Ci.ins at this
    rw [hins] at this
    push_cast
    exact this
  have HLen : Hid (∀ k, (depTo C true k).length = m + k) := fun k => by rw [depTo_length, hm]
  have HD0 : Hid (mapTo (fun _ => 0) m = depTo C true 0) := by show _ = _; rw [depTo, hm]
  have HOut : Hid (∀ j, j < C.os.length → 0 ≤ C.os.getD j 0 ∧ C.os.getD j 0 < ((m + n : Nat) : Int)) := outsIn hG hwir.symm
  have B1 := belowNew w (.cells #[.int .i64 C.in0, .int .i64 C.in1, .slice G n c, .slice O q d] 30)
  have p1 := Blk.new w #[.int .i64 C.in0, .int .i64 C.in1, .slice G n c, .slice O q d] 30
  have h1 := h.below B1
  obtain ⟨W1, hW1⟩ : ∃ W, W = w.alloc (.cells #[.int .i64 C.in0, .int .i64 C.in1, .slice G n c, .slice O q d] 30) := ⟨_, rfl⟩
  rw [← hW1] at B1 p1 h1
  have hlt0 : w.heap.size < W1.heap.size := p1.lt
  have D : Below W1.heap.size W1 W1.drew := (Below.refl _ W1).drew
  have hK : Hid (∀ W', Below W1.heap.size W1 W' → W'.cell? ⟨w.heap.size, 0, none⟩ = some (.int .i64 C.in0) ∧ W'.cell? ⟨w.heap.size, 1, none⟩ = some (.int .i64 C.in1) ∧ W'.cell? ⟨w.heap.size, 2, none⟩ = some (.slice G n c) ∧ W'.cell? ⟨w.heap.size, 3, none⟩ = some (.slice O q d)) := fun W' hb => (p1.below' hb).four
  have HW := Lib.hid (wiresIn_any _ C W1.drew (h1.below D) i0 (by omega) j0 (by omega) (by omega))
  have hwi : IntKind.i64.wrap (C.in0 + C.in1) = C.in0 + C.in1 := wrapIn (by omega) (by omega)
  have HINS := Lib.hid hins
  have HWIR := Lib.hid hwir
  have HP1 := Lib.hid p1
  obtain ⟨cs, hmk, hown⟩ := makeRun (C.in0 + C.in1) C.wires m (m + n) hins hwir (by omega) (by omega)
  have HOwn := Lib.hid hown
  clear hown
  have hO1 := Lib.hid (hO.below B1)
  clear h hG hgl hol hdep hm hins hwir h1 hO
  go_enter Try.func61, Try.ntmps61
  go_wp2_with fail
  rw [← hW1]
  clear hW1 p1
  first
    | go_region_held3 (fun w' => w'.cell? ⟨w.heap.size, 0, none⟩ = some (.int .i64 C.in0) ∧ w'.cell? ⟨w.heap.size, 1, none⟩ = some (.int .i64 C.in1) ∧ w'.cell? ⟨w.heap.size, 2, none⟩ = some (.slice G n c) ∧ w'.cell? ⟨w.heap.size, 3, none⟩ = some (.slice O q d)) (first | exact hK.out _ D | exact hK.out _ Bq | exact hK.out _ (Bq.trans ((belowNew w2 _).mono Bq.size)) | go_keep) (first
        | (go_at_call 47; refine (HW.out).mono ?_; rintro e w2 ⟨rfl, b2⟩; have Bq := D.trans (b2.mono D.size)))
    | fail
  have Br := Bq.trans ((belowNew w2 (.cells cs 3)).mono Bq.size)
  have o3' := (HOwn.out w2).mono Bq.size
  rw [HD0.out] at o3'
  obtain ⟨k0, k1, k2, k3⟩ := hK.out _ Br
  have HBr := Lib.hid Br
  obtain ⟨w3, hw3⟩ : ∃ W, W = w2.alloc (.cells cs 3) := ⟨_, rfl⟩
  rw [← hw3] at o3' k0 k1 k2 k3 HBr ⊢
  clear hwi D b2 Bq Br HW hw3 hmk HOwn
  go_wp2_with fail
  clear k0 k1 k2 k3
  go_loopw [5, 20] (fun vv iv wr => ∃ (k : Nat) (R : Option Addr) (l c' : Nat), k ≤ n ∧ iv = .int .i64 k ∧ vv = .slice R l c' ∧ Own wr W1.heap.size R l c' (depTo C true k) ∧ l = m + k ∧ Below W1.heap.size W1 wr) (fun _ iv _ => n - (intOf iv).toNat)
  case atStart => exact ⟨0, _, m, _, Nat.zero_le _, rfl, rfl, o3', rfl, HBr.out⟩
  case round =>
    obtain ⟨k, R, l, c', hk, rfl, rfl, ho, hlk, bk⟩ := hrel
    have l340 : l ≤ 340 := by omega
    have HLK := Lib.hid hlk
    by_cases hlt : k < n
    · obtain ⟨ad, x, y, z, rfl, hgx, hgy, hgz, HE⟩ := (hGs.below (B1.trans (bk.mono B1.size))).elem hlt
      have hgate := HGate.out k hlt
      rw [HE.out, ← hlk] at hgate
      have HP := Lib.hid (partsOf_in hgate)
      have b4 := belowNew wr (.cells #[.int .i64 x, .int .i64 y, .int .i64 z] 51)
      have y4 := Blk.new wr #[.int .i64 x, .int .i64 y, .int .i64 z] 51
      have ho4 := ho.below b4
      have q0 : (0 : Int) ≤ (k : Int) := by omega
      have q1 : (k : Int) < (n : Int) := by omega
      obtain ⟨w4, hw4⟩ : ∃ W, W = wr.alloc (.cells #[.int .i64 x, .int .i64 y, .int .i64 z] 51) := ⟨_, rfl⟩
      rw [← hw4] at b4 y4 ho4
      have B4 := bk.trans (b4.mono bk.size)
      have g0c := y4.cell (i := 0) rfl
      have g1c := y4.cell (i := 1) rfl
      have g2c := y4.cell (i := 2) rfl
      clear hgate ho b4 bk hlk
      go_upto_region 5 with fail
      rw [← hw4]
      clear hw4 hgx hgy hgz
      go_wp2_with fail
      refine (wiresRead_any x y z w4).mono ?_
      rintro e w5 ⟨R5, np, c5, rfl, o5, np2, b5⟩
      have ho5 := ho4.below b5
      have y5 := y4.below' b5
      have B5 := B4.trans (b5.mono B4.size)
      have hp5 := o5.has
      have hpl := hp5.1
      clear g0c g1c g2c
      have g0c := y5.cell (i := 0) rfl
      have g1c := y5.cell (i := 1) rfl
      have g2c := y5.cell (i := 2) rfl
      have hdr := Lib.hid (depTo_range C true k)
      have HGr := Lib.hid (greatestAt_any R l c' (depTo C true k) R5 np c5 (partsOf (x, y, z)) w5 ho5.has (by omega) hp5 (by omega) HP.out)
      obtain ⟨t, hT⟩ : ∃ t, mostAt (depTo C true k) 0 (partsOf (x, y, z)) = t := ⟨_, rfl⟩
      rw [hT] at HGr
      obtain ⟨t0, t1⟩ : 0 ≤ t ∧ t ≤ (k : Int) := by rw [← hT]; exact mostAt_range hdr.out _ 0 ⟨Int.le_refl _, by omega⟩
      have hwt : IntKind.i64.wrap (t + 1) = t + 1 := wrapIn (by omega) (by omega)
      have HTT := Lib.hid hT
      have HV : Hid (∀ u, u = gdep true (depTo C true k) (x, y, z) → depTo C true k ++ [u] = depTo C true (k + 1)) := fun u hu => by rw [depTo, HE.out, hu]
      clear ho4 y4 B4 b5 o5 hT hp5 hpl
      go_wp2_with fail
      refine (HGr.out).mono ?_
      rintro e w6 ⟨rfl, rfl⟩
      cases x1 : (x == 1) with
      | true =>
        have hx1 : x = 1 := by simpa using x1
        have HX := Lib.hid x1
        have HX1 := Lib.hid hx1
        clear x1 hx1
        have HQ : Hid (t + 1 = gdep true (depTo C true k) (x, y, z)) := by show _ = _; rw [gdep, if_pos (.inr HX1.out), HTT.out]
        go_wp2_with fail
        refine (depth2_any x y z true w5 HX.out).mono ?_
        rintro e w7 ⟨rfl, b7⟩
        have own7 := (ho5.below b7).2
        have B7 := B5.trans (b7.mono B5.size)
        have s7 : W1.heap.size ≤ w7.heap.size := B7.size
        clear ho5 b7 B5 y5 g0c g1c g2c
        go_wp2_with (at_builtin; refine appendInt w7 rfl (.tmp 33) (.tmp 35) rfl (t + 1) W1.heap.size _ l _ rfl rfl own7 (by omega) s7 ?_; intro v8 w8 own8 b8)
        rw [HV.out _ HQ.out] at own8
        obtain ⟨R8, c8, rfl, ho8⟩ := ownOf own8
        go_roundw
        case rel => exact ⟨k + 1, R8, l + 1, c8, by omega, by go_num, rfl, ho8, by have := HLK.out; omega, B7.trans b8⟩
        case measure => simp [intOf]; omega
      | false =>
        have hx1 : ¬ x = 1 := by simpa using x1
        have HX := Lib.hid x1
        have HX1 := Lib.hid hx1
        clear x1 hx1
        have HQ : Hid (t = gdep true (depTo C true k) (x, y, z)) := by show _ = _; rw [gdep, if_neg (by intro h; rcases h with h | h; exact absurd h (by simp); exact HX1.out h), HTT.out]
        go_wp2_with fail
        refine (depth2_any x y z false w5 HX.out).mono ?_
        rintro e w7 ⟨rfl, b7⟩
        have own7 := (ho5.below b7).2
        have B7 := B5.trans (b7.mono B5.size)
        have s7 : W1.heap.size ≤ w7.heap.size := B7.size
        clear ho5 b7 B5 y5 g0c g1c g2c
        go_wp2_with (at_builtin; refine appendInt w7 rfl (.tmp 33) (.tmp 35) rfl (t) W1.heap.size _ l _ rfl rfl own7 (by omega) s7 ?_; intro v8 w8 own8 b8)
        rw [HV.out _ HQ.out] at own8
        obtain ⟨R8, c8, rfl, ho8⟩ := ownOf own8
        go_roundw
        case rel => exact ⟨k + 1, R8, l + 1, c8, by omega, by go_num, rfl, ho8, by have := HLK.out; omega, B7.trans b8⟩
        case measure => simp [intOf]; omega
    · obtain rfl : k = n := by omega
      obtain ⟨k0, k1, k2, k3⟩ := hK.out _ bk
      have HGr := Lib.hid (greatestAt_any R l c' (depTo C true k) O q d C.os wr ho.has (by omega) (hO1.out.below bk) (by omega) (by rw [hlk]; exact HOut.out))
      have BK := Lib.hid bk
      clear ho hlk bk
      go_wp2_with fail
      refine (HGr.out).mono ?_
      rintro e w6 ⟨rfl, rfl⟩
      go_wp2_with fail
      go_ret
      exact ⟨rfl, B1.trans (BK.out.mono B1.size)⟩

set_option maxHeartbeats 2000000 in
theorem impl_DepthOf (v : Value) (C : Ci) (ry rz : Int) (rb : Bool) (w : World) (h : HasC w v C) (hf : Fit C) (hm : m_DepthOf C = (ry, rz, rb)) :
    Calls Try.prog 29 #[v] w fun e w' => e = .returned (.tuple #[.int .i64 ry, .int .i64 rz, .bool rb]) ∧ Below w.heap.size w w' := by
  obtain ⟨G, n, c, O, q, d, rfl, _, hO, _, _, _, _⟩ := id h
  have HM := Lib.hid hm
  have B1 := belowNew w (.cells #[.int .i64 C.in0, .int .i64 C.in1, .slice G n c, .slice O q d] 30)
  have p1 := Blk.new w #[.int .i64 C.in0, .int .i64 C.in1, .slice G n c, .slice O q d] 30
  have h1 := h.below B1
  obtain ⟨W1, hW1⟩ : ∃ W, W = w.alloc (.cells #[.int .i64 C.in0, .int .i64 C.in1, .slice G n c, .slice O q d] 30) := ⟨_, rfl⟩
  rw [← hW1] at B1 p1 h1
  clear h hm hO
  obtain ⟨ok, hok⟩ : ∃ ok, gd C = ok := ⟨_, rfl⟩
  have HG := Lib.hid (isCircuit_any _ C ok W1 h1 (fitLen hf) hok)
  obtain ⟨k0, k1, k2, k3⟩ := p1.four
  cases ok with
  | false =>
    have e := HM.out
    rw [m_DepthOf, hok] at e
    obtain ⟨e1, e2⟩ := Prod.mk.inj e
    obtain ⟨e3, e4⟩ := Prod.mk.inj e2
    subst e1 e3 e4
    clear e e2
    go_enter Try.func29, Try.ntmps29
    go_wp2_with fail
    rw [← hW1]
    refine (HG.out).mono ?_
    rintro e w2 ⟨rfl, b2⟩
    go_wp2_with fail
    refine bodyPost_ret (v := .tuple #[.int .i64 0, .int .i64 0, .bool false]) (by simp [results, Try.results29, go_sem]) rfl ⟨rfl, B1.trans (b2.mono B1.size)⟩
  | true =>
    have e := HM.out
    rw [m_DepthOf, if_pos hok] at e
    obtain ⟨e1, e⟩ := Prod.mk.inj e
    obtain ⟨e2, rfl⟩ := Prod.mk.inj e
    have HR := Lib.hid e1
    have HR2 := Lib.hid e2
    have hGood := gd_yes hok
    clear e e1 e2 hok
    go_enter Try.func29, Try.ntmps29
    go_wp2_with fail
    rw [← hW1]
    clear hW1
    refine (HG.out).mono ?_
    rintro e w2 ⟨rfl, b2⟩
    have p2 := p1.below' b2
    have h2 := h1.below b2
    have B2 := B1.trans (b2.mono B1.size)
    clear k0 k1 k2 k3 p1 h1 B1 b2 HG
    obtain ⟨k0, k1, k2, k3⟩ := p2.four
    have HC := Lib.hid (depthCnt1_any _ C w2 h2 hGood)
    rw [HR.out] at HC
    go_wp2_with fail
    refine (HC.out).mono ?_
    rintro e w3 ⟨rfl, b3⟩
    have p3 := p2.below' b3
    have h3 := h2.below b3
    have B3 := B2.trans (b3.mono B2.size)
    clear k0 k1 k2 k3 p2 h2 B2 b3 HC
    obtain ⟨k0, k1, k2, k3⟩ := p3.four
    have HC := Lib.hid (depthCnt2_any _ C w3 h3 hGood)
    rw [HR2.out] at HC
    go_wp2_with fail
    refine (HC.out).mono ?_
    rintro e w4 ⟨rfl, b4⟩
    go_wp2_with fail
    refine bodyPost_ret (v := .tuple #[.int .i64 ry, .int .i64 rz, .bool true]) (by simp [results, Try.results29, go_sem]) rfl ⟨rfl, B3.trans (b4.mono B3.size)⟩

end Go.Proofs.Ytaohgbkhmgfnhaa
