/- How often wires are read: the program's usesOf. For every valid circuit. -/
import Derived.Test.YteiibneaihdmbaaCirU3
import Derived.Shelf.RegionOpen
import Derived.RangeFuncCalls
namespace Go.Proofs.Yteiibneaihdmbaa
open Go.RowKit Go.Shelf Go.Maps
set_option maxRecDepth 100000
attribute [local go_sem] Oper.semAt_some

theorem permSnoc (l : List Int) (y : Int) (r : List Int) : (y :: (l ++ r)).Perm (l ++ [y] ++ r) := by
  rw [List.append_assoc]; exact (List.perm_middle).symm

theorem grownCell {W W' : World} {row : Option Nat} {g i : Nat} {v : Value} (hg : W.grownBy W' row) (h : W.cell? ⟨g, i, none⟩ = some v) (hne : some g ≠ row) : W'.cell? ⟨g, i, none⟩ = some v := by
  have hlt : g < W.heap.size := World.block_lt_of_cell? _ _ h
  have e := hg.block g hlt hne
  simpa [World.cell?, e] using h
theorem parts_length (g : Ga) : (partsOf g).length ≤ 2 := by
  unfold partsOf
  split
  · simp
  · split <;> simp
theorem readsTo_length (C : Ci) : ∀ j, (readsTo C j).length ≤ 2 * j
  | 0 => by simp [readsTo]
  | j + 1 => by
    rw [readsTo, List.length_append]
    have := readsTo_length C j
    have := parts_length (C.gs.getD j g0)
    omega
theorem getMem (l : List Int) (k : Nat) (h : k < l.length) : l.getD k 0 ∈ l := by
  rw [List.getD, List.getElem?_eq_getElem h]; exact List.getElem_mem h
theorem takeStep (l : List Int) (k : Nat) (h : k < l.length) : l.take (k + 1) = l.take k ++ [l.getD k 0] := by
  rw [List.take_add_one, List.getD, List.getElem?_eq_getElem h]; rfl

theorem seenAt {C : Ci} (hG : Good C) {j : Nat} (hj : j < C.gs.length) {D : DataW Unit} (hM : Means D (usesAt C j)) {v : Int} (hat : D.atKey (kI (C.ins + ((C.gs.length - 1 - j : Nat) : Int))) (vI 0) = vI v) :
    v = 0 ↔ ¬ usedB C j (C.ins + ((C.gs.length - 1 - j : Nat) : Int)) = true := by
  have e := vI_inj ((hM.1 _).symm.trans hat)
  rw [← looked hG hj]
  omega
theorem Means.perm {D : DataW Unit} {L L' : List Int} (h : Means D L) (hp : L.Perm L') : Means D L' :=
  ⟨fun x => by rw [h.1 x, hp.count_eq x], fun x => by rw [h.2 x]; exact decide_eq_decide.2 hp.mem_iff⟩
theorem readsUsed_length (C : Ci) : ∀ j, (readsUsed C j).length ≤ 2 * j
  | 0 => by simp [readsUsed]
  | j + 1 => by
    rw [readsUsed, List.length_append]
    have := readsUsed_length C j
    have := parts_length (C.gs.getD (C.gs.length - 1 - j) g0)
    split
    · omega
    · simp; omega
theorem usesAt_length (C : Ci) {j : Nat} (hj : j ≤ C.gs.length) : (usesAt C j).length ≤ C.os.length + 4 * C.gs.length := by
  unfold usesAt
  simp only [List.length_append]
  have := readsTo_length C (C.gs.length - j)
  have := readsUsed_length C j
  omega

set_option maxRecDepth 100000 in
set_option maxHeartbeats 4000000 in
theorem usesOf_in (v : Value) (C : Ci) (w : World) (h : HasC w v C) (hG : Good C) :
    CallsIn Fence.wide 5 Try.prog 133 #[v] w fun e w' => ∃ b q, e = .returned (.map (some b)) ∧ w.heap.size ≤ b ∧ q ≤ 4096 ∧ MapL w' b q (usesAt C C.gs.length) ∧ Below w.heap.size w w' := by
  obtain ⟨G, n, c, O, m, d, rfl, hGs, hO, _, _, _, _⟩ := id h
  have HN : Hid (C.gs.length = n) := hGs.1
  have HM : Hid (C.os.length = m) := hO.1
  have n300 : n ≤ 300 := by have := hG.g; have := HN.out; omega
  have m40 : m ≤ 40 := by have := hG.o; have := HM.out; omega
  have hro : Fence.wide.round = none := rfl
  refine callsIn_of_wp_marks Try.func133 rfl trivial ?_ hro
  simp only [Try.ntmps133, List.size_toArray, List.length_cons, List.length_nil, Nat.reduceAdd, Nat.reduceSub, Array.replicate_succ, Array.replicate_zero, List.push_toArray, List.append_toArray, List.nil_append, List.cons_append]
  have hmm := @run_makeMap Try.prog
  have b1 := belowNew w (.cells #[.int .i64 C.in0, .int .i64 C.in1, .slice G n c, .slice O m d] 29)
  have p1 := Blk.new w #[.int .i64 C.in0, .int .i64 C.in1, .slice G n c, .slice O m d] 29
  obtain ⟨W1, hW1⟩ : ∃ W, W = w.alloc (.cells #[.int .i64 C.in0, .int .i64 C.in1, .slice G n c, .slice O m d] 29) := ⟨_, rfl⟩
  have s1 : W1.heap.size = w.heap.size + 1 := by rw [hW1]; simp
  rw [← hW1] at b1 p1
  have b2 := belowNew W1 (.map #[] 0)
  have m2 := MapL.new W1
  rw [s1] at m2
  obtain ⟨W2, hW2⟩ : ∃ W, W = W1.alloc (.map #[] 0) := ⟨_, rfl⟩
  have s2 : W2.heap.size = w.heap.size + 1 + 1 := by rw [hW2]; simp [s1]
  rw [← hW2] at b2 m2
  have b3 := belowNew W2 (.cells #[.map (some (w.heap.size + 1))] 142)
  have u3 := Blk.newAt (k := w.heap.size + 1 + 1) W2 #[.map (some (w.heap.size + 1))] 142 s2.symm
  obtain ⟨W3, hW3⟩ : ∃ W, W = W2.alloc (.cells #[.map (some (w.heap.size + 1))] 142) := ⟨_, rfl⟩
  have s3 : W3.heap.size = w.heap.size + 1 + 1 + 1 := by rw [hW3]; simp [s2]
  rw [← hW3] at b3 u3
  have B3 : Below w.heap.size w W3 := (b1.trans (b2.mono b1.size)).trans (b3.mono (Nat.le_trans b1.size b2.size))
  have p3 := (p1.below' b2).below' b3
  have m3 : MapL W3 (w.heap.size + 1) 0 [] := m2.below b3 (by omega)
  have HK : Hid (∀ wr, W3.grownBy wr (some (w.heap.size + 1)) → Blk wr w.heap.size #[.int .i64 C.in0, .int .i64 C.in1, .slice G n c, .slice O m d] 29 ∧ Blk wr (w.heap.size + 1 + 1) #[.map (some (w.heap.size + 1))] 142 ∧ HasG wr G n C.gs ∧ Has wr O m C.os ∧ Below w.heap.size w wr) := fun wr hg => by
    have B : Below w.heap.size w wr := B3.grown hg B3.size (fun k e => by cases e; omega)
    exact ⟨p3.grown hg (by simp), u3.grown hg (by simp), hGs.below B, hO.below B, B⟩
  have HI : Hid (∀ k, k < m → I64 (C.os.getD k 0)) := fun k hk => by
    have := hG.out k (by have := HM.out; omega)
    have h2 : C.wires = C.ins + (C.gs.length : Int) := rfl
    have h3 : C.ins = C.in0 + C.in1 := rfl
    have := hG.a0; have := hG.a1; have := hG.b0; have := hG.b1; have := hG.g
    constructor <;> omega
  have HP : Hid (∀ k, k < n → ∀ y ∈ partsOf (C.gs.getD k g0), I64 y) := fun k hk y hy => by
    have := parts_low hG (k := k) (by have := HN.out; omega) y hy
    have h3 : C.ins = C.in0 + C.in1 := rfl
    have := hG.a0; have := hG.a1; have := hG.b0; have := hG.b1
    constructor <;> omega
  obtain ⟨k0, k1, k2, k3⟩ := p3.four
  have uc := u3.cell (i := 0) rfl
  have B3' := Lib.hid B3
  clear b1 b2 b3 p1 m2 B3
  gi_wp2
  rw [← hW1, ← hW2, ← hW3]
  clear hW1 hW2 hW3 s1 s2 k0 k1 k2 k3 uc
  gi_loopw [16] (fun i wr => ∃ k : Nat, k ≤ m ∧ i = .int .i64 k ∧ MapL wr (w.heap.size + 1) k (C.os.take k) ∧ W3.grownBy wr (some (w.heap.size + 1))) (fun i _ => m - (valInt i).toNat)
  case atStart => exact ⟨0, Nat.zero_le _, rfl, by simpa using m3, World.grownBy.refl _ _⟩
  case round =>
    obtain ⟨k, hk, rfl, hMk, hGk⟩ := hrel
    obtain ⟨q1, q2, q3, q4, q5⟩ := HK.out _ hGk
    obtain ⟨k0, k1, k2, k3⟩ := q1.four
    have uc := q2.cell (i := 0) rfl
    by_cases hlt : k < m
    · obtain ⟨ad, z, rfl, hcz, HZ⟩ := q4.elem hlt
      have e0 : (0 : Int) ≤ (k : Int) := by omega
      have e1 : (k : Int) < (m : Int) := by omega
      have hz64 : I64 z := by rw [HZ.out]; exact HI.out k hlt
      obtain ⟨t, ht⟩ : ∃ t, t = (C.os.take k).count z := ⟨_, rfl⟩
      have tl : t ≤ k := by
        rw [ht]; exact Nat.le_trans List.count_le_length (by rw [List.length_take]; omega)
      have x1 : wrap64 ((t : Int) + 1) = (t : Int) + 1 := by unfold wrap64; omega
      have HT := Lib.hid ht
      have HMk := Lib.hid hMk
      have HGk := Lib.hid hGk
      have HLk : Hid ((C.os.take k).length ≤ 16777216) := by show _ ≤ _; rw [List.length_take]; omega
      clear ht hMk hGk q1 q2 q3 q4 q5
      gi_wp2_with (first
        | (gi_at_lookup; refine MapL.wpLookIn rfl _ _ rfl rfl HMk.out z rfl hz64 ?_; rw [← HT.out])
        | (gi_at_mapUpdate; refine MapL.wpMoreIn rfl _ _ _ rfl rfl HMk.out (by omega) HLk.out z rfl hz64 (by rw [← HT.out]; rfl) ?_; intro w1 hM1 hG1))
      go_roundw
      case rel => exact ⟨k + 1, by omega, by go_num, by
        rw [takeStep C.os k (by rw [HM.out]; exact hlt), ← HZ.out]
        exact hM1.perm (List.perm_append_singleton ..).symm, HGk.out.trans hG1⟩
      case measure => simp [valInt]; omega
    · obtain rfl : m = k := by omega
      rw [List.take_of_length_le (by rw [HM.out]; exact Nat.le_refl _)] at hMk
      have HGk := Lib.hid hGk
      have HMk := Lib.hid hMk
      clear hGk hMk q1 q2 q3 q4 q5
      gi_wp2
      gi_loopw [28] (fun i wr => ∃ j : Nat, j ≤ n ∧ i = .int .i64 j ∧ MapL wr (w.heap.size + 1) (m + 2 * j) (C.os ++ readsTo C j) ∧ W3.grownBy wr (some (w.heap.size + 1))) (fun i _ => n - (valInt i).toNat)
      case atStart => exact ⟨0, Nat.zero_le _, rfl, by simpa [readsTo] using HMk.out, HGk.out⟩
      case round =>
        obtain ⟨j, hj, rfl, hMj, hGj⟩ := hrel
        obtain ⟨q1, q2, q3, q4, q5⟩ := HK.out _ hGj
        by_cases hlt : j < n
        · obtain ⟨ad, x, y, z, rfl, hgx, hgy, hgz, HE⟩ := q3.elem hlt
          have e0 : (0 : Int) ≤ (j : Int) := by omega
          have e1 : (j : Int) < (n : Int) := by omega
          have hR : readsTo C (j + 1) = readsTo C j ++ partsOf (x, y, z) := by rw [readsTo, HE.out]
          have hPI := HP.out j hlt
          rw [HE.out] at hPI
          have HR := Lib.hid hR
          have HPI := Lib.hid hPI
          have HRL : Hid ((readsTo C j).length ≤ 2 * j) := readsTo_length C j
          obtain ⟨w4, hw4⟩ : ∃ W, W = wr.alloc (.cells #[.int .i64 x, .int .i64 y, .int .i64 z] 69) := ⟨_, rfl⟩
          have b4 := belowNew wr (.cells #[.int .i64 x, .int .i64 y, .int .i64 z] 69)
          have y4 := Blk.new wr #[.int .i64 x, .int .i64 y, .int .i64 z] 69
          rw [← hw4] at b4 y4
          have hbw : w.heap.size + 1 < wr.heap.size := hMj.lt
          have HM4 := Lib.hid (hMj.below b4 hbw)
          have HG4 := Lib.hid (hGj.trans (grownOf b4 _))
          have g0c := y4.cell (i := 0) rfl
          have g1c := y4.cell (i := 1) rfl
          have g2c := y4.cell (i := 2) rfl
          clear hR hPI hMj hGj q1 q2 q3 q4 q5 b4
          gi_wp2
          rw [← hw4]
          clear hw4 hgx hgy hgz g0c g1c g2c y4
          refine ⟨trivial, (callsIn_wide.2 (wiresRead_any x y z w4)).mono ?_⟩
          rintro e w5 ⟨R5, np, c5, rfl, o5, np2, b5⟩
          have hM5 := HM4.out.below b5 HM4.out.lt
          have HG5 := Lib.hid (HG4.out.trans (grownOf b5 _))
          have HR5 := Lib.hid o5.has
          have HNP : Hid ((partsOf (x, y, z)).length = np) := o5.has.1
          have bl4 : w.heap.size + 1 < w4.heap.size := HM4.out.lt
          have HB5 : Hid (∀ ad, R5 = some ad → ad.block ≠ w.heap.size + 1) := fun ad e => by
            have := o5.born ad e; omega
          clear b5 o5
          gi_wp2
          gi_loopw [35] (fun i wr => ∃ l : Nat, l ≤ np ∧ i = .int .i64 l ∧ MapL wr (w.heap.size + 1) (m + 2 * j + l) (C.os ++ readsTo C j ++ (partsOf (x, y, z)).take l) ∧ w5.grownBy wr (some (w.heap.size + 1))) (fun i _ => np - (valInt i).toNat)
          case atStart => exact ⟨0, Nat.zero_le _, rfl, by simpa using hM5, World.grownBy.refl _ _⟩
          case round =>
            obtain ⟨l, hl, rfl, hMl, hGl⟩ := hrel
            obtain ⟨q1, q2, q3, q4, q5⟩ := HK.out _ (HG5.out.trans hGl)
            have uc := q2.cell (i := 0) rfl
            by_cases hll : l < np
            · have hp5 : Has wr R5 np (partsOf (x, y, z)) := HR5.out.keep hGl.size fun ad e hlt' => hGl.block _ hlt' (fun e' => HB5.out ad e (by injection e'))
              obtain ⟨ap, s, rfl, hcs, HS⟩ := hp5.elem hll
              have f0 : (0 : Int) ≤ (l : Int) := by omega
              have f1 : (l : Int) < (np : Int) := by omega
              have hs64 : I64 s := HPI.out s (by rw [HS.out]; exact getMem _ _ (by rw [HNP.out]; exact hll))
              obtain ⟨t, ht⟩ : ∃ t, t = (C.os ++ readsTo C j ++ (partsOf (x, y, z)).take l).count s := ⟨_, rfl⟩
              have hlen : (C.os ++ readsTo C j ++ (partsOf (x, y, z)).take l).length ≤ 65536 := by
                simp only [List.length_append, List.length_take]
                have := HRL.out; have := HM.out; omega
              have tl : t ≤ 65536 := by rw [ht]; exact Nat.le_trans List.count_le_length hlen
              have x1 : wrap64 ((t : Int) + 1) = (t : Int) + 1 := by unfold wrap64; omega
              have HT := Lib.hid ht
              have HMl := Lib.hid hMl
              have HGl := Lib.hid hGl
              have HLl := Lib.hid hlen
              clear ht hMl hGl q1 q2 q3 q4 q5 hp5 hlen tl
              gi_wp2_with (first
                | (gi_at_lookup; refine MapL.wpLookAt t rfl _ _ rfl rfl HMl.out s rfl hs64 HT.out ?_)
                | (gi_at_mapUpdate; refine MapL.wpMoreAt t rfl _ _ _ rfl rfl HMl.out (by omega) (by have := HLl.out; omega) s rfl hs64 HT.out (by simp [Act.eval, x1]) ?_; intro w1 hM1 hG1))
              go_roundw
              case rel => exact ⟨l + 1, by omega, by go_num, by
                rw [takeStep _ l (by rw [HNP.out]; exact hll), ← HS.out, ← List.append_assoc]
                exact hM1.perm (List.perm_append_singleton ..).symm, HGl.out.trans hG1⟩
              case measure => simp [valInt]; omega
            · obtain rfl : l = np := by omega
              rw [List.take_of_length_le (by rw [HNP.out]; exact Nat.le_refl _)] at hMl
              have HMl := Lib.hid hMl
              have HGl := Lib.hid (HG5.out.trans hGl)
              clear hGl hMl q1 q2 q3 q4 q5 uc
              gi_wp2
              go_roundw
              case rel => exact ⟨j + 1, by omega, by go_num, by
                rw [HR.out, ← List.append_assoc]
                exact HMl.out.mono (by omega), HGl.out⟩
              case measure => simp [valInt]; omega
        · obtain rfl : n = j := by omega
          have HGj := Lib.hid hGj
          have HMj := Lib.hid hMj
          obtain ⟨k0, k1, k2, k3⟩ := q1.four
          clear hGj hMj q1 q2 q3 q4 q5
          gi_wp2
          refine ⟨trivial, (backwardG_in Fence.wide 4 trivial hro _ _ _ _).mono ?_⟩
          rintro e w6 ⟨rfl, rfl⟩
          gi_wp2
          have hbB : w.heap.size + 1 < wr.heap.size := HMj.out.lt
          obtain ⟨q1, q2, q3, q4, q5⟩ := HK.out _ HGj.out
          have hus : w.heap.size + 1 + 1 < wr.heap.size := q2.lt
          have b6 := belowNew wr (.cells #[.slice G n c] 27)
          have hM6 := HMj.out.below b6 hbB
          have y6 := Blk.new wr #[.slice G n c] 27
          have q16 := q1.below' b6
          have q26 := q2.below' b6
          have B6 : Below w.heap.size w _ := q5.trans (b6.mono q5.size)
          have hG6 := hGs.below B6
          obtain ⟨w6, hw6⟩ : ∃ W, W = wr.alloc (.cells #[.slice G n c] 27) := ⟨_, rfl⟩
          have s6 : w6.heap.size = wr.heap.size + 1 := by rw [hw6]; simp
          rw [← hw6] at b6 hM6 y6 q16 q26 B6 hG6 ⊢
          have hGold : 0 < n → ∀ ad : Addr, G = some ad → ad.block < w.heap.size := fun hn ad e => by
            obtain ⟨ad', x, y, z, e', hc0, _⟩ := hGs.elem hn
            rw [e] at e'; injection e' with e'; subst e'
            simpa [Addr.add] using World.block_lt_of_cell? _ _ hc0
          obtain ⟨Dj, hDj, mDj1, mDj2⟩ := hM6
          clear hw6 q1 q2 q3 q4 q5 k0 k1 k2 k3
          refine wpIn_rangeFunc_ownH hro (by omega) (gf := 171) (lb := #[.pointer (some ⟨wr.heap.size, 0, none⟩)]) rfl trivial (enters_of Try.func171 (by kernel_rfl) rfl)
            (backwardG_stops (fun x : Nat => #[.int .i64 ((n : Int) - 1 - ((min x n : Nat) : Int)), gateV (C.gs.getD (n - 1 - min x n) g0)]) (fun j => j) Fence.wide 4 trivial hro (by omega) wr.heap.size w.heap.size G n c C.gs (by omega) w6 (by omega) (fun k hk => by rw [Nat.min_eq_left (by omega)]) hGold (y6.cell (i := 0) rfl) hG6)
            Kg.t (Kg.b (by omega)) (Below.refl _ _) (fun _ => rfl)
            (fun pre W => ∃ D : DataW Unit, W.ownsMap Try.prog 3 (plainElem Try.prog 3) (w.heap.size + 1) (m + 2 * n + 2 * pre.length) D ∧ (pre = List.range pre.length → Means D (usesAt C pre.length)) ∧ Blk W w.heap.size #[.int .i64 C.in0, .int .i64 C.in1, .slice G n c, .slice O m d] 29 ∧ Blk W (w.heap.size + 1 + 1) #[.map (some (w.heap.size + 1))] 142 ∧ Below w.heap.size w W ∧ w6.heap.size ≤ W.heap.size)
            (fun _ _ _ => False)
            (fun s A B row hs hg hr => by
              obtain ⟨D, h1, h2, h3, h4, h5, h6⟩ := hs
              exact ⟨D, h1.kept hg (fun e => by have := (hr _ e.symm).1; omega), h2, h3.grown hg (fun e => by have := (hr _ e.symm).1; omega), h4.grown hg (fun e => by have := (hr _ e.symm).1; omega), h5.grown hg h5.size (fun k e => by have := (hr k e).1; omega), Nat.le_trans h6 hg.size⟩)
            (fun _ _ _ _ _ hs _ _ => hs)
            ⟨Dj, by simpa using hDj, fun _ => ⟨by simpa [usesAt_zero, HN.out] using mDj1, by simpa [usesAt_zero, HN.out] using mDj2⟩, q16, q26, B6, Nat.le_refl _⟩
            (fun x a' W => ∃ g : Nat, a' = { tmps := #[Value.agg #[Value.int IntKind.i64 C.in0, Value.int IntKind.i64 C.in1, Value.slice G n c, Value.slice O m d], Value.pointer (some ⟨w.heap.size, 0, none⟩), Value.map none, Value.pointer (some ⟨w.heap.size + 1 + 1, 0, none⟩), undef, u5, undef, u7, undef, u9, Value.int IntKind.i64 ((n : Int) - 1 - ((min x n : Nat) : Int)), Value.pointer (some ⟨g, 0, none⟩), Value.map (some (w.heap.size + 1)), Value.pointer (some ⟨w.heap.size, 3, none⟩), Value.slice O m d, Value.int IntKind.i64 (m : Int), Value.int IntKind.i64 (m : Int), Value.bool false, u18, u19, u20, u21, u22, u23, u24, Value.pointer (some ⟨w.heap.size, 2, none⟩), Value.slice G n c, Value.int IntKind.i64 (n : Int), Value.int IntKind.i64 (n : Int), Value.bool false, u30, u31, u32, u33, u34, u35, u36, u37, u38, u39, u40, u41, u42, u43, u44, Value.pointer (some ⟨w.heap.size, 2, none⟩), Value.slice G n c, Value.func (Fn.func 171) #[] #[Value.pointer (some ⟨wr.heap.size, 0, none⟩)], Value.int IntKind.i64 ((n : Int) - 1 - ((min x n : Nat) : Int)), gateV (C.gs.getD (n - 1 - min x n) g0), undef, undef, undef, undef, undef, undef, undef, undef, undef, undef, undef, undef, undef, undef, undef], defers := [] } ∧ Blk W g #[.int .i64 (C.gs.getD (n - 1 - min x n) g0).1, .int .i64 (C.gs.getD (n - 1 - min x n) g0).2.1, .int .i64 (C.gs.getD (n - 1 - min x n) g0).2.2] 69 ∧ w6.heap.size ≤ g)
            (fun x a' s A B row hs hg hr => by
              obtain ⟨g, h1, h2, h3⟩ := hs
              exact ⟨g, h1, h2.grown hg (fun e => by obtain ⟨_, o, ho, hc⟩ := hr g e.symm; rw [show A.heap[g]? = _ from h2] at ho; cases ho; cases hc), h3⟩)
            ?assign ?body ?done ?stop
          case assign =>
            rintro l pre x W K ⟨D, h1, h2, h3, h4, h5, h6⟩ hK
            obtain ⟨⟨gx, gy, gz⟩, hgt⟩ : ∃ gt, C.gs.getD (n - 1 - min x n) g0 = gt := ⟨_, rfl⟩
            obtain ⟨ix, hix⟩ : ∃ ix, (n : Int) - 1 - ((min x n : Nat) : Int) = ix := ⟨_, rfl⟩
            rw [hgt, hix] at hK
            rw [hgt, hix]
            simp only [gateV] at hK ⊢
            have bn := belowNew W (.cells #[.int .i64 gx, .int .i64 gy, .int .i64 gz] 69)
            have yn := Blk.new W #[.int .i64 gx, .int .i64 gy, .int .i64 gz] 69
            have hb' : w.heap.size + 1 < W.heap.size := by omega
            have hKK := Lib.hid hK
            clear hgt hix hK
            gi_wp2
            refine hKK.out _ _ (KeepsFrom.of_grownBy (grownOf bn none) (fun j e => by cases e)) ⟨bn.mono h5.size, fun v hv => ?_⟩ ⟨D, h1.kept (grownOf bn none) (by simp), h2, h3.below' bn, h4.below' bn, h5.trans (bn.mono h5.size), Nat.le_trans h6 bn.size⟩ ⟨_, rfl, yn, h6⟩
            exact cell_kept hv (grownOf bn none) (fun r e => by cases e)
          case body =>
            rintro l pre x a' W _ _ ⟨D, hD, hMn, c1, c2, hB, hsz⟩ ⟨g, rfl, yg, hg⟩ hpre
            obtain ⟨⟨gx, gy, gz⟩, hgt⟩ : ∃ gt, C.gs.getD (n - 1 - min x n) g0 = gt := ⟨_, rfl⟩
            obtain ⟨ix, hix⟩ : ∃ ix, (n : Int) - 1 - ((min x n : Nat) : Int) = ix := ⟨_, rfl⟩
            have hix0 : -1 ≤ ix ∧ ix ≤ 300 := by omega
            have hPI : ∀ k, k < (partsOf (gx, gy, gz)).length → I64 ((partsOf (gx, gy, gz)).getD k 0) := fun k hk => by
              rw [← hgt] at hk ⊢
              by_cases hn0 : n - 1 - min x n < n
              · exact HP.out _ hn0 _ (getMem _ _ hk)
              · have e2 : partsOf (C.gs.getD (n - 1 - min x n) g0) = [0, 0] := by rw [List.getD, List.getElem?_eq_none (by have := HN.out; omega)]; rfl
                rw [e2] at hk ⊢
                have : k = 0 ∨ k = 1 := by simp at hk; omega
                rcases this with rfl | rfl <;> exact ⟨by decide, by decide⟩
            have HPI := Lib.hid hPI
            rw [hgt] at yg ⊢
            rw [hix]
            simp only [gateV]
            obtain ⟨k0, k1, k2, k3⟩ := c1.four
            have uc := c2.cell (i := 0) rfl
            have gc0 := yg.cell (i := 0) rfl
            have gc1 := yg.cell (i := 1) rfl
            have gc2 := yg.cell (i := 2) rfl
            have i0 : 0 ≤ C.in0 ∧ C.in0 ≤ 20 := ⟨hG.a0, hG.a1⟩
            have i1 : 0 ≤ C.in1 ∧ C.in1 ≤ 20 := ⟨hG.b0, hG.b1⟩
            obtain ⟨sm, hsm⟩ : ∃ sm, C.in0 + C.in1 = sm := ⟨_, rfl⟩
            have x1 : IntKind.i64.wrap (C.in0 + C.in1) = sm := by rw [← hsm]; exact wrapIn (by omega) (by omega)
            obtain ⟨y, hy⟩ : ∃ y, sm + ix = y := ⟨_, rfl⟩
            have x2 : IntKind.i64.wrap (sm + ix) = y := by rw [← hy]; exact wrapIn (by omega) (by omega)
            have hy64 : I64 y := ⟨by omega, by omega⟩
            obtain ⟨v0, hrun0, hat0, _⟩ := hD.lookup_int keyedInt Try.underlying142 Try.underlying3 (zeroInt _) (keyOf_int_mk Try.underlying3 (i64Wf hy64))
            have hbW : w.heap.size + 1 < W.heap.size := by omega
            have HMn := Lib.hid hMn
            have HAT := Lib.hid hat0
            have HY := Lib.hid hy
            have HSM := Lib.hid hsm
            have HIX := Lib.hid hix
            have HGT := Lib.hid hgt
            have hpre' := Lib.hid hpre
            have hPre2 : Hid (pre ++ [x] = List.range (pre ++ [x]).length → pre = List.range pre.length ∧ x = pre.length) := fun e => by
              rw [List.length_append, List.length_singleton, List.range_succ] at e
              obtain ⟨e1, e2⟩ := List.append_inj e (by simp)
              exact ⟨e1, by simpa using e2⟩
            clear hMn hat0 hy hsm hix hgt hPI i0 i1 hix0 hpre
            by_cases hv : v0 = 0
            · subst hv
              gi_wp2
              have DW : Below W.heap.size W W.drew := (Below.refl _ W).drew
              have hf97 : Fence.wide.fn 154 := trivial
              have hf104 : Fence.wide.fn 156 := trivial
              have hmx : Try.prog.follows .mixedOrders = true := by kernel_rfl
              have HDr : Hid (∀ (w8 : World) (R8 : Option Addr) (n8 c8 : Nat), Below W.heap.size W w8 → Own w8 W.heap.size R8 n8 c8 (partsOf (gx, gy, gz)) → n8 ≤ 2 →
                  CallsIn (Fence.wide.inRound l) 2 Try.prog 156 #[.map (some (w.heap.size + 1)), .slice R8 n8 c8] w8 fun e w9 => ∃ D9 : DataW Unit, e = .returned (.tuple #[]) ∧ w9.ownsMap Try.prog 3 (plainElem Try.prog 3) (w.heap.size + 1) (m + 2 * n + 2 * (pre ++ [x]).length) D9 ∧ (∀ L : List Int, L.length ≤ 65536 → Means D (partsOf (gx, gy, gz) ++ L) → Means D9 L) ∧ W.grownBy w9 (some (w.heap.size + 1))) := fun w8 R8 n8 c8 hb ho hn8 =>
                CallsIn.inRound l (callsIn_wide.2 ((dropUses_any (w.heap.size + 1) (m + 2 * n + 2 * pre.length) R8 n8 c8 (partsOf (gx, gy, gz)) D w8 (hD.kept (grownOf hb none) (by simp)) ho.has (fun ad e => by have := ho.born ad e; omega) (by omega) (by have := hpre'.out; omega) (fun k hk => HPI.out k (by rw [ho.has.1]; exact hk))).mono (by
                  rintro e w9 ⟨D9, rfl, h9, m9, g9⟩
                  exact ⟨D9, rfl, h9.mono (by rw [List.length_append, List.length_singleton]; omega), m9, (grownOf hb _).trans g9⟩)))
              have HU : Hid (∀ w8, Below W.heap.size W w8 → w8.cell? ⟨w.heap.size + 1 + 1, 0, none⟩ = some (.map (some (w.heap.size + 1)))) := fun w8 hb => (c2.below' hb).cell (i := 0) rfl
              clear hD yg
              gi_region_with_o (first
                | (gi_at_call 156; refine (HDr.out w8 R8 n8 c8 (DW.trans b8) h8 np8).mono ?_; rintro e w9 ⟨D9, rfl, h9, m9, g9⟩)
                | (gi_at_call 154; refine (CallsIn.inRound l (callsIn_wide.2 (wiresRead_any gx gy gz _))).mono ?_; rintro e w8 ⟨R8, n8, c8, rfl, h8, np8, b8⟩; have uc8 := HU.out w8 (DW.trans b8)))
              all_goals gi_wp2
              all_goals
                refine ⟨KeepsFrom.of_grownBy g9 (fun j e => by cases e; omega), ⟨(Below.refl _ W).grown g9 hB.size (fun k e => by cases e; omega), fun v hv => grownCell g9 hv (by simp; omega)⟩, D9, h9, fun e => ?_, c1.grown g9 (by simp), c2.grown g9 (by simp), hB.grown g9 hB.size (fun k e => by cases e; omega), Nat.le_trans (by omega) g9.size⟩
                obtain ⟨ep, ex⟩ := hPre2.out e
                have hj : pre.length < C.gs.length := by rw [HN.out]; exact hpre'.out
                have ey : y = C.ins + ((C.gs.length - 1 - pre.length : Nat) : Int) := by
                  have a1 := HY.out; have a2 := HSM.out; have a3 := HIX.out; have a4 := HN.out; have a5 := hpre'.out
                  have h3 : C.ins = C.in0 + C.in1 := rfl
                  rw [ex, Nat.min_eq_left (by omega)] at a3
                  omega
                have hs := seenAt hG hj (HMn.out ep) (by rw [← ey]; exact HAT.out)
                have hp := keptUnused hj (hs.1 rfl)
                have eg : C.gs.getD (C.gs.length - 1 - pre.length) g0 = (gx, gy, gz) := by
                  have a3 := HGT.out; have a5 := hpre'.out
                  rw [ex, Nat.min_eq_left (by omega), ← HN.out] at a3
                  exact a3
                rw [eg] at hp
                rw [List.length_append, List.length_singleton]
                exact m9 _ (by have a1 := usesAt_length C (j := pre.length + 1) (by omega); have a2 := HM.out; have a4 := HN.out; omega) ((HMn.out ep).perm hp)
            · have x3 : (v0 == 0) = false := by simp; omega
              have HV := Lib.hid hv
              clear hv
              gi_wp2
              refine ⟨KeepsFrom.refl _ _, ⟨Below.refl _ _, fun v hv => hv⟩, D, hD.mono (by rw [List.length_append]; omega), fun e => ?_, c1, c2, hB, by omega⟩
              obtain ⟨ep, ex⟩ := hPre2.out e
              have hj : pre.length < C.gs.length := by rw [HN.out]; exact hpre'.out
              have ey : y = C.ins + ((C.gs.length - 1 - pre.length : Nat) : Int) := by
                have a1 := HY.out; have a2 := HSM.out; have a3 := HIX.out; have a4 := HN.out; have a5 := hpre'.out
                have h3 : C.ins = C.in0 + C.in1 := rfl
                rw [ex, Nat.min_eq_left (by omega)] at a3
                omega
              have hs := seenAt hG hj (HMn.out ep) (by rw [← ey]; exact HAT.out)
              rw [List.length_append, List.length_singleton, ← keptUsed hj (by
                by_cases hu : usedB C pre.length (C.ins + ((C.gs.length - 1 - pre.length : Nat) : Int)) = true
                · exact hu
                · exact absurd (hs.2 hu) HV.out)]
              exact HMn.out ep
          case done =>
            rintro Dd ys W hDd rfl ⟨D, hD, hMn, c1, c2, hB, hsz⟩ hK
            rw [upTo_length] at hD hMn
            have hMn' := hMn (by simp [upTo])
            rw [← HN.out] at hMn'
            have uc := c2.cell (i := 0) rfl
            have hbd : w.heap.size + 1 < Dd := by omega
            have HD := Lib.hid hD
            have HMn := Lib.hid hMn'
            clear hMn hMn' hD
            gi_wp2
            refine ⟨by simp, .inl ⟨_, _, rfl, run_takeDeferred hK, ?_⟩⟩
            refine ⟨_, results_tmp rfl _ _ _, w.heap.size + 1, m + 2 * n + 2 * n, rfl, by omega, by omega, ⟨D, HD.out.kept (grownBy_putObj' W Dd _) (by simp; omega), HMn.out.1, HMn.out.2⟩, ?_⟩
            exact hB.trans (belowK_b (w := w) (Nat.le_refl _) W Dd _ _ (by omega) hK rfl rfl)
          case stop =>
            rintro D c pre W _ _ h _
            exact h.elim
end Go.Proofs.Yteiibneaihdmbaa
