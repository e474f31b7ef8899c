/- The program's ThenCircuit. For every two circuits of at most 1048576 gates and outs. -/
import Derived.Test.YtaohgbkhmgfnhaaCirI11
namespace Go.Proofs.Ytaohgbkhmgfnhaa
open Go.RowKit Go.Shelf
set_option maxRecDepth 100000

theorem wires_low {ws : List Int} {next : Int} {k i : Nat} (h : i < ws.length) : (wiresTo ws next k).getD i 0 = ws.getD i 0 := by
  unfold wiresTo
  simp [List.getD, List.getElem?_append_left h]
theorem wires_high {ws : List Int} {next : Int} {k i : Nat} (h : ws.length ≤ i) (hk : i < ws.length + k) : (wiresTo ws next k).getD i 0 = next + ((i - ws.length : Nat) : Int) := by
  unfold wiresTo
  have e : (ws ++ mapTo (fun j => next + (j : Int)) k).getD i 0 = (mapTo (fun j => next + (j : Int)) k).getD (i - ws.length) 0 := by simp [List.getD, List.getElem?_append_right h]
  rw [e, mapTo_at _ (by omega)]
theorem wires_prefix {ws : List Int} {next : Int} {j n i : Nat} (hj : j ≤ n) (hi : i < ws.length + j) : (wiresTo ws next n).getD i 0 = (wiresTo ws next j).getD i 0 := by
  by_cases h : i < ws.length
  · rw [wires_low h, wires_low h]
  · rw [wires_high (by omega) (by omega), wires_high (by omega) hi]
theorem moved_movTo {gs : List Ga} {ws : List Int} {next : Int} (hg : ∀ k, k < gs.length → gateOk ((ws.length : Int) + (k : Int)) (gs.getD k g0) = true) :
    gs.map (mvG fun i => (wiresTo ws next gs.length).getD i 0) = movTo gs ws next gs.length := by
  apply List.ext_getElem
  · simp [movTo]
  · intro j h1 h2
    have hj : j < gs.length := by simpa using h1
    have hgj := hg j hj
    have e : gs.getD j g0 = gs[j]'hj := by simp [List.getD, hj]
    simp only [movTo, List.getElem_map, List.getElem_range]
    rw [e] at hgj ⊢
    obtain ⟨x, y, z, hx⟩ : ∃ x y z, gs[j]'hj = (x, y, z) := ⟨_, _, _, rfl⟩
    rw [hx] at hgj ⊢
    rcases gateOk_yes hgj with ⟨hx01, hy, hz⟩ | ⟨rfl, hy, rfl⟩ | ⟨rfl, rfl, rfl⟩
    · rw [mvG, if_pos hx01, movedG, if_pos hx01]
      simp only
      rw [wires_prefix (Nat.le_of_lt hj) (by omega), wires_prefix (Nat.le_of_lt hj) (by omega)]
    · rw [mvG, if_neg (by omega), if_pos rfl, movedG, if_neg (by omega), if_pos rfl]
      simp only
      rw [wires_prefix (Nat.le_of_lt hj) (by omega)]
    · rfl

set_option maxHeartbeats 2000000 in
theorem thenPlace (q : Nat) (G : Option Addr) (n c : Nat) (O : Option Addr) (m d : Nat) (C : Ci) (k : Nat) (w : World) (h : HasC w (.agg #[.int .i64 C.in0, .int .i64 C.in1, .slice G n c, .slice O m d]) C) (hO : Has w O m C.os)
    (hq : Blk w q #[.int .i64 C.in0, .int .i64 C.in1, .slice G n c, .slice O m d] 30) (gC : Good C) (hk : k ≤ 300) :
    PlaceAt 73 #[.pointer (some ⟨q, 0, none⟩)] (fun i => (wiresTo C.os C.wires k).getD i 0) (m + k) w := by
  intro W i hi hb
  have ea : (#[Value.int .i64 (i : Int)] ++ #[Value.pointer (some ⟨q, 0, none⟩)] : Array Value) = #[.int .i64 (i : Int), .pointer (some ⟨q, 0, none⟩)] := by simp
  rw [ea]
  have hol : C.os.length = m := hO.1
  have m40 : m ≤ 40 := by have := gC.o; omega
  have hw : 0 ≤ C.wires ∧ C.wires ≤ 1000 := by have := gC.a0; have := gC.a1; have := gC.b0; have := gC.b1; have := gC.g; unfold Ci.wires; omega
  have p := hq.below' hb
  have hO1 := hO.below hb
  have h1 := h.below hb
  obtain ⟨k0, k1, k2, k3⟩ := p.four
  by_cases hlt : i < m
  · have e : (wiresTo C.os C.wires k).getD i 0 = C.os.getD i 0 := wires_low (by omega)
    simp only [e]
    obtain ⟨ad, z, rfl, hc, HZ⟩ := hO1.elem hlt
    have q0 : (0 : Int) ≤ (i : Int) := by omega
    have q1 : (i : Int) < (m : Int) := by omega
    clear h hO hq gC hol h1 p hO1 e hi hw ea
    go_enter Try.func73, Try.ntmps73
    go_wp2
    go_ret
    exact ⟨retI HZ.out, Below.refl _ _⟩
  · have e : (wiresTo C.os C.wires k).getD i 0 = (i : Int) - (m : Int) + C.wires := by rw [wires_high (by omega) (by omega), hol]; omega
    simp only [e]
    have D : Below W.heap.size W W.drew := (Below.refl _ W).drew
    have hK : Hid (∀ W', Below W.heap.size W W' → W'.cell? ⟨q, 0, none⟩ = some (.int .i64 C.in0) ∧ W'.cell? ⟨q, 1, none⟩ = some (.int .i64 C.in1) ∧ W'.cell? ⟨q, 2, none⟩ = some (.slice G n c) ∧ W'.cell? ⟨q, 3, none⟩ = some (.slice O m d)) := fun W' hb => (p.below' hb).four
    have HW := Lib.hid (wiresIn_any _ C W.drew (h1.below D) gC.a0 (by have := gC.a1; omega) gC.b0 (by have := gC.b1; omega) (by have := gC.g; omega))
    have w1 : IntKind.i64.wrap ((i : Int) - (m : Int)) = (i : Int) - (m : Int) := wrapIn (by omega) (by omega)
    have w2 : IntKind.i64.wrap ((i : Int) - (m : Int) + C.wires) = (i : Int) - (m : Int) + C.wires := wrapIn (by omega) (by omega)
    have q1 : (m : Int) ≤ (i : Int) := by omega
    clear h hO hq gC hol h1 p hO1 e hi hw ea hlt
    go_enter Try.func73, Try.ntmps73
    go_wp2_with fail
    first
      | go_region_held3 (fun w' => w'.cell? ⟨q, 0, none⟩ = some (.int .i64 C.in0) ∧ w'.cell? ⟨q, 1, none⟩ = some (.int .i64 C.in1) ∧ w'.cell? ⟨q, 2, none⟩ = some (.slice G n c) ∧ w'.cell? ⟨q, 3, none⟩ = some (.slice O m d)) (first | exact hK.out _ D | exact hK.out _ Bq | go_keep) (first | (go_at_call 47; refine (HW.out).mono ?_; rintro e w3 ⟨rfl, b3⟩; have Bq := D.trans (b3.mono D.size)))
      | fail
    go_wp2_with fail
    go_ret
    exact ⟨rfl, Bq⟩

set_option maxHeartbeats 8000000 in
theorem impl_ThenCircuit (v : Value) (C : Ci) (v' : Value) (D : Ci) (RC : Ci) (rb : Bool) (w : World) (h : HasC w v C) (hf : Fit C) (h' : HasC w v' D) (hf' : Fit D) (hm : m_ThenCircuit C D = (RC, rb)) :
    Calls Try.prog 33 #[v, v'] w fun e w' => ∃ u, e = .returned (.tuple #[u, .bool rb]) ∧ OwnC w' w.heap.size u RC ∧ RC.gs.length ≤ 1048576 ∧ RC.os.length ≤ 1048576 ∧ Below w.heap.size w w' := by
  obtain ⟨G, n, c, O, q, d, rfl, hGs, hO, hnc, hqd, hGn, hOn⟩ := id h
  obtain ⟨G2, n2, c2, O2, q2, d2, rfl, hGs2, hO2, hnc2, hqd2, hGn2, hOn2⟩ := id h'
  have HM := Lib.hid hm
  have HQ0 : Hid (C.os.length = q) := hO.1
  have HN2 : Hid (D.gs.length = n2) := hGs2.1
  have HQ2 : Hid (D.os.length = q2) := hO2.1
  have HN0 : Hid (C.gs.length = n) := hGs.1
  have b1 := belowNew w (.cells #[.int .i64 C.in0, .int .i64 C.in1, .slice G n c, .slice O q d] 30)
  have p1 := Blk.new w #[.int .i64 C.in0, .int .i64 C.in1, .slice G n c, .slice O q d] 30
  obtain ⟨W1, hW1⟩ : ∃ W, W = w.alloc (.cells #[.int .i64 C.in0, .int .i64 C.in1, .slice G n c, .slice O q d] 30) := ⟨_, rfl⟩
  have s1 : W1.heap.size = w.heap.size + 1 := by rw [hW1]; simp
  rw [← hW1] at b1 p1
  have b2 := belowNew W1 (.cells #[.int .i64 D.in0, .int .i64 D.in1, .slice G2 n2 c2, .slice O2 q2 d2] 30)
  have d2' := Blk.newAt (k := w.heap.size + 1) W1 #[.int .i64 D.in0, .int .i64 D.in1, .slice G2 n2 c2, .slice O2 q2 d2] 30 s1.symm
  have p2 := p1.below' b2
  obtain ⟨W2, hW2⟩ : ∃ W, W = W1.alloc (.cells #[.int .i64 D.in0, .int .i64 D.in1, .slice G2 n2 c2, .slice O2 q2 d2] 30) := ⟨_, rfl⟩
  have s2 : W2.heap.size = w.heap.size + 1 + 1 := by rw [hW2]; simp [s1]
  rw [← hW2] at b2 d2' p2
  have b3 := belowNew W2 (.cells #[.int .i64 0, .int .i64 0, .slice none 0 0, .slice none 0 0] 30)
  have r3 := Blk.newAt (k := w.heap.size + 1 + 1) W2 #[.int .i64 0, .int .i64 0, .slice none 0 0, .slice none 0 0] 30 s2.symm
  have p3 := p2.below' b3
  have d3 := d2'.below' b3
  obtain ⟨W3, hW3⟩ : ∃ W, W = W2.alloc (.cells #[.int .i64 0, .int .i64 0, .slice none 0 0, .slice none 0 0] 30) := ⟨_, rfl⟩
  have s3 : W3.heap.size = w.heap.size + 1 + 1 + 1 := by rw [hW3]; simp [s2]
  rw [← hW3] at b3 r3 p3 d3
  have B3 := (b1.trans (b2.mono b1.size)).trans (b3.mono (Nat.le_trans b1.size b2.size))
  have h3 := h.below B3
  have h3' := h'.below B3
  have lt0 : w.heap.size < W3.heap.size := by omega
  have lt1 : w.heap.size + 1 < W3.heap.size := by omega
  have lt2 : w.heap.size + 1 + 1 < W3.heap.size := by omega
  have hG3 := hGs.below B3
  have hO3 := hO.below B3
  have hG3' := hGs2.below B3
  have hO3' := hO2.below B3
  clear h h' hm b1 p1 b2 d2' p2 b3 s1 s2 hGs hO hGs2 hO2
  have HGc := Lib.hid (isCircuit_any _ C (gd C) W3 h3 (fitLen hf) rfl)
  have HGd : Hid (∀ W', Below W3.heap.size W3 W' → Calls Try.prog 15 #[.agg #[.int .i64 D.in0, .int .i64 D.in1, .slice G2 n2 c2, .slice O2 q2 d2]] W' fun e w' => e = .returned (.bool (gd D)) ∧ Below W'.heap.size W' w') := fun W' hb => isCircuit_any _ D (gd D) W' (h3'.below hb) (fitLen hf') rfl
  obtain ⟨k0, k1, k2, k3⟩ := p3.four
  obtain ⟨l0, l1, l2, l3⟩ := d3.four
  go_enter Try.func33, Try.ntmps33
  go_upto_region 1 with fail
  rw [← hW1, ← hW2, ← hW3]
  clear hW1 hW2 hW3
  go_cut [26] (fun vq wx => vq = .bool (!decide (gd C = true ∧ gd D = true ∧ (C.os.length : Int) = D.ins)) ∧ Below W3.heap.size W3 wx)
  case first =>
    cases eg : gd C with
    | false =>
      rw [eg] at HGc
      go_wp2_with fail
      refine (HGc.out).mono ?_
      rintro e w4 ⟨rfl, b4⟩
      go_wp2_with fail
      go_meet
      exact ⟨by simp [eg], b4⟩
    | true =>
      rw [eg] at HGc
      cases ed : gd D with
      | false =>
        rw [ed] at HGd
        go_wp2_with fail
        refine (HGc.out).mono ?_
        rintro e w4 ⟨rfl, b4⟩
        obtain ⟨x0, x1, x2, x3⟩ := (d3.below b4 lt1).four
        clear l0 l1 l2 l3
        go_wp2_with fail
        refine (HGd.out _ b4).mono ?_
        rintro e w5 ⟨rfl, b5⟩
        go_wp2_with fail
        go_meet
        exact ⟨by simp [ed], b4.trans (b5.mono b4.size)⟩
      | true =>
        rw [ed] at HGd
        have gD := gd_yes ed
        have hs : IntKind.i64.wrap (D.in0 + D.in1) = D.in0 + D.in1 := wrapIn (by have := gD.a0; have := gD.b0; omega) (by have := gD.a1; have := gD.b1; omega)
        obtain ⟨t0, t1, t2, t3⟩ : 0 ≤ D.in0 ∧ D.in0 ≤ 20 ∧ 0 ≤ D.in1 ∧ D.in1 ≤ 20 := ⟨gD.a0, gD.a1, gD.b0, gD.b1⟩
        obtain ⟨bq, hbq⟩ : ∃ bq : Bool, ((q : Int) != D.in0 + D.in1) = bq := ⟨_, rfl⟩
        have HQ : Hid ((!decide ((q : Int) = D.ins)) = bq) := by show _ = _; rw [← hbq]; rfl
        have HQL := HQ0
        clear gD
        go_wp2_with fail
        refine (HGc.out).mono ?_
        rintro e w4 ⟨rfl, b4⟩
        obtain ⟨x0, x1, x2, x3⟩ := (d3.below b4 lt1).four
        clear l0 l1 l2 l3 k0 k1 k2 k3
        go_wp2_with fail
        refine (HGd.out _ b4).mono ?_
        rintro e w5 ⟨rfl, b5⟩
        have B5 := b4.trans (b5.mono b4.size)
        clear x0 x1 x2 x3
        obtain ⟨k0, k1, k2, k3⟩ := (p3.below B5 lt0).four
        obtain ⟨l0, l1, l2, l3⟩ := (d3.below B5 lt1).four
        go_wp2_with fail
        go_meet
        exact ⟨by rw [← HQ.out, HQL.out]; simp [eg, ed], B5⟩
  case rest =>
    clear k0 k1 k2 k3 l0 l1 l2 l3 HGc HGd
    obtain ⟨rfl, B4⟩ := hcut
    obtain ⟨w4, rfl⟩ : ∃ x, x = wc := ⟨_, rfl⟩
    have r4 := r3.below B4 lt2
    have Bw := B3.trans (B4.mono B3.size)
    by_cases hok : gd C = true ∧ gd D = true ∧ (C.os.length : Int) = D.ins
    · have hdec : decide (gd C = true ∧ gd D = true ∧ (C.os.length : Int) = D.ins) = true := decide_eq_true hok
      have e := HM.out
      rw [m_ThenCircuit, if_pos hok] at e
      have HRC := Lib.hid e
      obtain ⟨gc, gd', hq⟩ := hok
      have gC := gd_yes gc
      have gD := gd_yes gd'
      have q40 : q ≤ 40 := by have := gC.o; have := HQ0.out; omega
      have n300 : n ≤ 300 := by have := gC.g; have := HN0.out; omega
      have n2300 : n2 ≤ 300 := by have := gD.g; have := HN2.out; omega
      have q240 : q2 ≤ 40 := by have := gD.o; have := HQ2.out; omega
      have hqi : (q : Int) = D.ins := by rw [← hq, HQ0.out]
      have hgs : ∀ k, k < D.gs.length → gateOk ((C.os.length : Int) + (k : Int)) (D.gs.getD k g0) = true := fun k hk => by rw [hq]; exact gD.gate k hk
      have hgs2 : ∀ k, k < D.gs.length → gateOk ((q + n2 : Nat) : Int) (D.gs.getD k g0) = true := fun k hk => by
        obtain ⟨x, y, z, hx⟩ : ∃ x y z, D.gs.getD k g0 = (x, y, z) := ⟨_, _, _, rfl⟩
        have := hgs k hk
        rw [hx] at this ⊢
        exact gateOk_mono this (by have := HN2.out; have := HQ0.out; push_cast; omega)
      have hos2 : ∀ j, j < D.os.length → 0 ≤ D.os.getD j 0 ∧ D.os.getD j 0 < ((q + n2 : Nat) : Int) := fun k hk => by
        have h5 := gD.out k hk
        have e5 : D.wires = D.ins + (D.gs.length : Int) := rfl
        have := HN2.out
        push_cast
        omega
      have p4 := p3.below B4 lt0
      have d4 := d3.below B4 lt1
      have HMv := Lib.hid (movedCircuit_any 73 #[.pointer (some ⟨w.heap.size, 0, none⟩)] (enters_of Try.func73 (by kernel_rfl) rfl) (fun i => (wiresTo C.os C.wires n2).getD i 0) (q + n2) _ D w4 (h3'.below B4) (thenPlace w.heap.size G n c O q d C n2 w4 (h3.below B4) (hO3.below B4) p4 gC n2300) hf'.1 hf'.2.1 hgs2 hos2)
      have hmath : D.gs.map (mvG fun i => (wiresTo C.os C.wires n2).getD i 0) = movTo D.gs C.os C.wires n2 := by rw [← HN2.out]; exact moved_movTo hgs
      rw [hmath] at HMv
      obtain ⟨T, hT⟩ : ∃ T : Ci, T = ⟨C.in0, C.in1, C.gs ++ movTo D.gs C.os C.wires n2, pickL (wiresTo C.os C.wires n2) D.os⟩ := ⟨_, rfl⟩
      have HTh : Hid (ifG T = (RC, rb)) := by
        have e : thenC C D = T := by rw [hT, thenC, HN2.out]
        rw [← e]
        exact HRC.out
      have Tg : T.gs.length ≤ 1048576 ∧ T.os.length ≤ 1048576 := by
        have := HN0.out
        have := HQ2.out
        rw [hT]
        constructor
        · show (C.gs ++ movTo D.gs C.os C.wires n2).length ≤ 1048576
          rw [List.length_append, movTo_length]; omega
        · show (pickL (wiresTo C.os C.wires n2) D.os).length ≤ 1048576
          simp only [pickL, List.length_map]; omega
      have hsz : RC.gs.length ≤ 1048576 ∧ RC.os.length ≤ 1048576 := by
        have e := HTh.out
        unfold ifG at e
        split at e
        · obtain ⟨rfl, _⟩ := Prod.mk.inj e; exact Tg
        · obtain ⟨rfl, _⟩ := Prod.mk.inj e; exact ⟨by simp, by simp⟩
      have HSz := Lib.hid hsz
      have HTI : Hid (∀ B v W', OwnC W' B v T → Calls Try.prog 75 #[v] W' fun e w' => ∃ u, e = .returned (.tuple #[u, .bool rb]) ∧ OwnC w' B u RC ∧ Below W'.heap.size W' w') := fun B v W' ho => (validCircuit_any v T B W' ho Tg).mono (by rintro e w' ⟨u, rfl, h1, h2⟩; rw [HTh.out] at h1 ⊢; exact ⟨u, rfl, h1, h2⟩)
      obtain ⟨l0, l1, l2, l3⟩ := d4.four
      rw [hdec]
      clear hdec e gc gd' hq hqi HM hgs hgs2 hos2 gC gD hsz hmath HRC
      go_wp2_with fail
      refine (HMv.out).mono ?_
      rintro e w6 ⟨u6, rfl, o6, b6⟩
      obtain ⟨Gm, nm, cm, Om, om, dm, rfl, oGm, oOm⟩ := o6
      have nm2 : nm = n2 := by have h := oGm.1; simp only [movTo_length] at h; omega
      subst nm2
      have B6 := B4.trans (b6.mono B4.size)
      have B46 := b6
      clear l0 l1 l2 l3 HMv b6
      obtain ⟨w7, hw7⟩ : ∃ W, W = w6.alloc (.cells #[.int .i64 0, .int .i64 0, .slice Gm nm cm, .slice Om om dm] 30) := ⟨_, rfl⟩
      have b7 := belowNew w6 (.cells #[.int .i64 0, .int .i64 0, .slice Gm nm cm, .slice Om om dm] 30)
      have y7 := Blk.new w6 #[.int .i64 0, .int .i64 0, .slice Gm nm cm, .slice Om om dm] 30
      rw [← hw7] at b7 y7
      have B7 := B6.trans (b7.mono B6.size)
      have B47 := B46.trans (b7.mono B46.size)
      have oG7 := oGm.below b7
      have oO7 := oOm.below b7
      go_wp2_with fail
      rw [← hw7]
      clear hw7
      have D7 : Below w7.heap.size w7 w7.drew := (Below.refl _ w7).drew
      have L7 : Below w7.heap.size w7 (w7.alloc (.cells #[.slice G n c, .slice Gm nm cm] 28)).drew := (belowNew w7 (.cells #[.slice G n c, .slice Gm nm cm] 28)).drew
      have yl := Blk.new w7 #[.slice G n c, .slice Gm nm cm] 28
      have HJ := Lib.hid (concat2G_any w7.heap.size G n c C.gs Gm nm cm (movTo D.gs C.os C.wires nm) (w7.alloc (.cells #[.slice G n c, .slice Gm nm cm] 28)).drew (yl.cell (i := 0) rfl) (yl.cell (i := 1) rfl) yl.lt ((hG3.below B7).below L7) (by omega) hGn (oG7.has.below L7) (by omega) oG7.nilOk)
      have HOT : Hid (∀ R cR W', Below w7.heap.size w7 W' → OwnG W' w7.heap.size R (n + nm) cR (C.gs ++ movTo D.gs C.os C.wires nm) → OwnC W' w4.heap.size (.agg #[.int .i64 C.in0, .int .i64 C.in1, .slice R (n + nm) cR, .slice Om om dm]) T) := fun R cR W' hb h1 => by rw [hT]; exact ⟨R, n + nm, cR, Om, om, dm, rfl, h1.mono B47.size, oO7.below hb⟩
      have lt6 : w6.heap.size < w7.heap.size := y7.lt
      have hK7 : Hid (∀ W', Below w7.heap.size w7 W' → (W'.cell? ⟨w.heap.size, 0, none⟩ = some (.int .i64 C.in0) ∧ W'.cell? ⟨w.heap.size, 1, none⟩ = some (.int .i64 C.in1) ∧ W'.cell? ⟨w.heap.size, 2, none⟩ = some (.slice G n c) ∧ W'.cell? ⟨w.heap.size, 3, none⟩ = some (.slice O q d)) ∧ W'.cell? ⟨w6.heap.size, 0, none⟩ = some (.int .i64 0) ∧ W'.cell? ⟨w6.heap.size, 1, none⟩ = some (.int .i64 0) ∧ W'.cell? ⟨w6.heap.size, 2, none⟩ = some (.slice Gm nm cm) ∧ W'.cell? ⟨w6.heap.size, 3, none⟩ = some (.slice Om om dm)) := fun W' hb => ⟨(p3.below (B7.trans (hb.mono B7.size)) lt0).four, (y7.below' hb).four⟩
      have hR9 : Hid (∀ W', Below w7.heap.size w7 W' → Blk W' (w.heap.size + 1 + 1) #[.int .i64 0, .int .i64 0, .slice none 0 0, .slice none 0 0] 30) := fun W' hb => r3.below (B7.trans (hb.mono B7.size)) lt2
      have ne6 : w6.heap.size ≠ w.heap.size + 1 + 1 := by have := B6.size; omega
      have hS9 : Hid (∀ W' a b c' d', Below w7.heap.size w7 W' → (((((W'.setCell ⟨w.heap.size + 1 + 1, 0, none⟩ a).setCell ⟨w.heap.size + 1 + 1, 1, none⟩ b).setCell ⟨w.heap.size + 1 + 1, 2, none⟩ c').setCell ⟨w.heap.size + 1 + 1, 3, none⟩ d').cell? ⟨w.heap.size, 0, none⟩ = some (.int .i64 C.in0) ∧ ((((W'.setCell ⟨w.heap.size + 1 + 1, 0, none⟩ a).setCell ⟨w.heap.size + 1 + 1, 1, none⟩ b).setCell ⟨w.heap.size + 1 + 1, 2, none⟩ c').setCell ⟨w.heap.size + 1 + 1, 3, none⟩ d').cell? ⟨w.heap.size, 1, none⟩ = some (.int .i64 C.in1) ∧ ((((W'.setCell ⟨w.heap.size + 1 + 1, 0, none⟩ a).setCell ⟨w.heap.size + 1 + 1, 1, none⟩ b).setCell ⟨w.heap.size + 1 + 1, 2, none⟩ c').setCell ⟨w.heap.size + 1 + 1, 3, none⟩ d').cell? ⟨w.heap.size, 2, none⟩ = some (.slice G n c) ∧ ((((W'.setCell ⟨w.heap.size + 1 + 1, 0, none⟩ a).setCell ⟨w.heap.size + 1 + 1, 1, none⟩ b).setCell ⟨w.heap.size + 1 + 1, 2, none⟩ c').setCell ⟨w.heap.size + 1 + 1, 3, none⟩ d').cell? ⟨w.heap.size, 3, none⟩ = some (.slice O q d)) ∧ ((((W'.setCell ⟨w.heap.size + 1 + 1, 0, none⟩ a).setCell ⟨w.heap.size + 1 + 1, 1, none⟩ b).setCell ⟨w.heap.size + 1 + 1, 2, none⟩ c').setCell ⟨w.heap.size + 1 + 1, 3, none⟩ d').cell? ⟨w6.heap.size, 0, none⟩ = some (.int .i64 0) ∧ ((((W'.setCell ⟨w.heap.size + 1 + 1, 0, none⟩ a).setCell ⟨w.heap.size + 1 + 1, 1, none⟩ b).setCell ⟨w.heap.size + 1 + 1, 2, none⟩ c').setCell ⟨w.heap.size + 1 + 1, 3, none⟩ d').cell? ⟨w6.heap.size, 1, none⟩ = some (.int .i64 0) ∧ ((((W'.setCell ⟨w.heap.size + 1 + 1, 0, none⟩ a).setCell ⟨w.heap.size + 1 + 1, 1, none⟩ b).setCell ⟨w.heap.size + 1 + 1, 2, none⟩ c').setCell ⟨w.heap.size + 1 + 1, 3, none⟩ d').cell? ⟨w6.heap.size, 2, none⟩ = some (.slice Gm nm cm) ∧ ((((W'.setCell ⟨w.heap.size + 1 + 1, 0, none⟩ a).setCell ⟨w.heap.size + 1 + 1, 1, none⟩ b).setCell ⟨w.heap.size + 1 + 1, 2, none⟩ c').setCell ⟨w.heap.size + 1 + 1, 3, none⟩ d').cell? ⟨w6.heap.size, 3, none⟩ = some (.slice Om om dm)) := fun W' a b c' d' hb =>
        ⟨(((((p3.below (B7.trans (hb.mono B7.size)) lt0).other (b := w.heap.size + 1 + 1) (by omega) 0 a).other (b := w.heap.size + 1 + 1) (by omega) 1 b).other (b := w.heap.size + 1 + 1) (by omega) 2 c').other (b := w.heap.size + 1 + 1) (by omega) 3 d').four, (((((y7.below' hb).other (b := w.heap.size + 1 + 1) ne6.symm 0 a).other (b := w.heap.size + 1 + 1) ne6.symm 1 b).other (b := w.heap.size + 1 + 1) ne6.symm 2 c').other (b := w.heap.size + 1 + 1) ne6.symm 3 d').four⟩
      have lt24 : w.heap.size + 1 + 1 < w4.heap.size := Nat.lt_of_lt_of_le lt2 B4.size
      clear hT r4 oGm oOm yl B46 b7
      first | (go_region_held3 (fun w' => (w'.cell? ⟨w.heap.size, 0, none⟩ = some (.int .i64 C.in0) ∧ w'.cell? ⟨w.heap.size, 1, none⟩ = some (.int .i64 C.in1) ∧ w'.cell? ⟨w.heap.size, 2, none⟩ = some (.slice G n c) ∧ w'.cell? ⟨w.heap.size, 3, none⟩ = some (.slice O q d)) ∧ w'.cell? ⟨w6.heap.size, 0, none⟩ = some (.int .i64 0) ∧ w'.cell? ⟨w6.heap.size, 1, none⟩ = some (.int .i64 0) ∧ w'.cell? ⟨w6.heap.size, 2, none⟩ = some (.slice Gm nm cm) ∧ w'.cell? ⟨w6.heap.size, 3, none⟩ = some (.slice Om om dm)) (first | exact hK7.out _ D7 | exact hK7.out _ L7 | exact hK7.out _ Ba | exact hK7.out _ B9 | exact hS9.out _ _ _ _ _ B9 | go_keep) (first
        | (go_at_call 75; refine (HTI.out w4.heap.size _ w8 (HOT.out R8 c8 w8 Ba (o8.mono L7.size))).mono ?_; rintro e w9 ⟨u, rfl, ou, b9⟩; have B9 := Ba.trans (b9.mono Ba.size); obtain ⟨Gx, nx, cx, Ox, mx, dx, rfl, hx1, hx2⟩ := id ou; obtain ⟨z0, z1, z2, z3⟩ := (hR9.out _ B9).four; have zf0 := (hR9.out _ B9).free 0; have zf1 := (hR9.out _ B9).free 1; have zf2 := (hR9.out _ B9).free 2; have zf3 := (hR9.out _ B9).free 3)
        | (go_at_call 76; refine (HJ.out).mono ?_; rintro e w8 ⟨R8, c8, rfl, o8, b8⟩; have Ba := L7.trans (b8.mono L7.size)))) | fail
      go_wp2_with fail
      have r10 := ((((hR9.out _ B9).set 0 (.int .i64 RC.in0)).set 1 (.int .i64 RC.in1)).set 2 (.slice Gx nx cx)).set 3 (.slice Ox mx dx)
      obtain ⟨e0, e1, e2, e3⟩ := (show Blk _ (w.heap.size + 1 + 1) #[.int .i64 RC.in0, .int .i64 RC.in1, .slice Gx nx cx, .slice Ox mx dx] 30 from r10).four
      have g10 := grown_setCell (grown_setCell (grown_setCell (grown_setCell (World.grownBy.refl w9 (some (w.heap.size + 1 + 1))) 0 (.int .i64 RC.in0)) 1 (.int .i64 RC.in1)) 2 (.slice Gx nx cx)) 3 (.slice Ox mx dx)
      have Bz : Below w.heap.size w w9 := B3.trans ((B7.trans (B9.mono B7.size)).mono B3.size)
      refine bodyPost_ret (v := .tuple #[.agg #[.int .i64 RC.in0, .int .i64 RC.in1, .slice Gx nx cx, .slice Ox mx dx], .bool rb]) (by simp [results, Try.results33, go_sem, e0, e1, e2, e3]) rfl ⟨_, rfl, (ou.kept g10 lt24).mono (by omega), HSz.out.1, HSz.out.2, ?_⟩
      exact (((Bz.setCell (by show w.heap.size ≤ w.heap.size + 1 + 1; omega) _).setCell (by show w.heap.size ≤ w.heap.size + 1 + 1; omega) _).setCell (by show w.heap.size ≤ w.heap.size + 1 + 1; omega) _).setCell (by show w.heap.size ≤ w.heap.size + 1 + 1; omega) _
    · have hdec : decide (gd C = true ∧ gd D = true ∧ (C.os.length : Int) = D.ins) = false := decide_eq_false hok
      have e := HM.out
      rw [m_ThenCircuit, if_neg hok] at e
      obtain ⟨rfl, rfl⟩ := Prod.mk.inj e
      obtain ⟨z0, z1, z2, z3⟩ := r4.four
      have f0 := r4.free 0
      have f1 := r4.free 1
      have f2 := r4.free 2
      have f3 := r4.free 3
      rw [hdec]
      clear hdec hok e HM
      go_wp2_with fail
      have r5 := (((r4.set 0 (.int .i64 0)).set 1 (.int .i64 0)).set 2 (.slice none 0 0)).set 3 (.slice none 0 0)
      obtain ⟨e0, e1, e2, e3⟩ := (show Blk _ (w.heap.size + 1 + 1) #[.int .i64 0, .int .i64 0, .slice none 0 0, .slice none 0 0] 30 from r5).four
      refine bodyPost_ret (v := .tuple #[.agg #[.int .i64 0, .int .i64 0, .slice none 0 0, .slice none 0 0], .bool false]) (by simp [results, Try.results33, go_sem, e0, e1, e2, e3]) rfl ⟨_, rfl, zeroOwnC _ _, ?_⟩
      exact (((Bw.setCell (by show w.heap.size ≤ w.heap.size + 1 + 1; omega) _).setCell (by show w.heap.size ≤ w.heap.size + 1 + 1; omega) _).setCell (by show w.heap.size ≤ w.heap.size + 1 + 1; omega) _).setCell (by show w.heap.size ≤ w.heap.size + 1 + 1; omega) _

end Go.Proofs.Ytaohgbkhmgfnhaa
