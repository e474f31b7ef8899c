/- The program's lists of wires that are made pair by pair: equal and choose; the lesser and the greatest number. For lists of at most 1000 wires. -/
import Derived.Test.YteiibneaihdmbaaGdI3
import Derived.Deep.RegionHeld3
import Derived.Deep.DeepCutAuto
namespace Go.Proofs.Yteiibneaihdmbaa
open Go Go.RowKit
set_option maxRecDepth 100000

section
variable {w w' : World} {t : TypeId} {q B B' N0 N1 n c g m : Nat} {R : Option Addr} {r' : Option Nat} {G : List Ga} {ys : List Value} {D : Nat → Prop}
theorem Filled.typed (h : Filled w B' 3 g m ys D) : ∃ xs, w.heap[g]? = some (.cells xs 3 (0, 0)) := by
  obtain ⟨xs, ho, _⟩ := h
  rcases ho.2 with ⟨hv, _⟩ | ⟨g2, cap, cur, hv, _, hg, _⟩
  · cases hv
  · injection hv with e1
    injection e1 with e1
    injection e1 with e1
    rw [e1]
    exact ⟨_, hg⟩
theorem Filled.keepAt (h : Filled w B' 3 g m ys D) (hs : w'.heap[g]? = w.heap[g]?) : Filled w' B' 3 g m ys D := by
  obtain ⟨xs, ho, hx⟩ := h
  refine ⟨xs, ⟨ho.1, ?_⟩, hx⟩
  rcases ho.2 with h2 | ⟨g2, cap, cur, e, hb, hg, h5, h6, h7, h8⟩
  · exact .inl h2
  · refine .inr ⟨g2, cap, cur, e, hb, ?_, h5, h6, h7, h8⟩
    injection e with e1
    injection e1 with e1
    injection e1 with e1
    rw [← e1, hs, e1]
    exact hg
theorem Filled.mk (h : Filled w B' 3 g m ys D) (hT : MkTo q w (blockOf R) w' r') (hM : Mk w t q B N0 N1 R n c G) : Filled w' B' 3 g m ys D := by
  obtain ⟨xs, hx⟩ := h.typed
  exact h.keepAt (hT.typed hM hx (fun e => hM.notInt e.symm) (by decide))
theorem Mk.wrote (hM : Mk w t q B N0 N1 R n c G) (h : Filled w B' 3 g m ys D) (k : Nat) (v : Value) : Mk (w.setCell ⟨g, k, none⟩ v) t q B N0 N1 R n c G := by
  have gs : w.grownBy (w.setCell ⟨g, k, none⟩ v) (some g) := grown_setCell (World.grownBy.refl _ _) _ _
  obtain ⟨xs, hx⟩ := h.typed
  refine hM.kept gs ?_ ?_
  · simp
    rintro rfl
    have := hM.blk
    unfold Blk at this
    rw [this] at hx
    injection hx with hx
    injection hx with _ hx
    exact hM.notInt hx
  · intro ad e
    simp
    rintro rfl
    obtain ⟨zs, mm, hz⟩ := hM.typed ad e
    rw [hz] at hx
    injection hx with hx
    injection hx with _ hx
    exact absurd hx (by decide)
end

set_option maxHeartbeats 1000000 in
theorem gmChoose1_any (u v : Int) (bm bs : Nat) (s : Int) (q B N0 N1 : Nat) (R : Option Addr) (n c : Nat) (G : List Ga) (w : World) (hM : Mk w 82 q B N0 N1 R n c G) (h0 : N0 ≤ 1000) (h1 : N1 ≤ 1000) (hn : n ≤ 999990) (hbm : Blk w bm #[.pointer (some ⟨q, 0, none⟩)] 120) (hbs : Blk w bs #[.int .i64 s] 3) :
    Calls Try.prog 165 #[.int .i64 u, .int .i64 v, .pointer (some ⟨bm, 0, none⟩), .pointer (some ⟨bs, 0, none⟩)] w fun e w' => ∃ (R' : Option Addr) (n' c' : Nat) (G' : List Ga) (z : Int), e = .returned (.int .i64 z) ∧ Hid (∀ (us vs : List Int) (k : Nat), us.getD k 0 = u → vs.getD k 0 = v → pickStep (N0 + N1) s us vs k G = (G', z)) ∧ n' ≤ n + 3 ∧ Mk w' 82 q B N0 N1 R' n' c' G' ∧ MkTo q w (blockOf R) w' (blockOf R') := by
  have HG1 := Lib.hid hM.len
  have T1 := MkTo.refl q w (blockOf R)
  obtain ⟨w1, hw1⟩ : ∃ w1, w1 = w := ⟨_, rfl⟩
  have M1 : Mk w1 82 q B N0 N1 R n c G := by rw [hw1]; exact hM
  have T1 : MkTo q w (blockOf R) w1 (blockOf R) := by rw [hw1]; exact T1
  have y1 : Blk w1 bm #[.pointer (some ⟨q, 0, none⟩)] 120 := by rw [hw1]; exact hbm
  have x1 : Blk w1 bs #[.int .i64 s] 3 := by rw [hw1]; exact hbs
  have cm1 := hbm.cell (i := 0) rfl
  clear hM hbm hbs
  go_enter Try.func165, Try.ntmps165
  go_wp2_with fail
  rw [← hw1]
  clear hw1 cm1
  refine (gmXor_any u v q B N0 N1 _ _ _ _ _ M1 h0 h1 (by omega)).mono ?_
  rintro e w2 ⟨R2, c2, z2, rfl, hz2, M2, t2⟩
  have T2 := T1.trans t2
  have y2 := y1.mk t2 M1 (by decide) (by decide)
  have x2 := x1.mk t2 M1 (by decide) (by decide)
  have cm2 := y2.cell (i := 0) rfl
  have cs2 := x2.cell (i := 0) rfl
  clear t2 T1 M1 y1 x1
  go_wp2_with fail
  refine (gmAnd_any s z2 q B N0 N1 _ _ _ _ _ M2 h0 h1 (by omega)).mono ?_
  rintro e w3 ⟨R3, c3, z3, rfl, hz3, M3, t3⟩
  have T3 := T2.trans t3
  have y3 := y2.mk t3 M2 (by decide) (by decide)
  have x3 := x2.mk t3 M2 (by decide) (by decide)
  have cm3 := y3.cell (i := 0) rfl
  have cs3 := x3.cell (i := 0) rfl
  clear t3 T2 M2 y2 x2
  go_wp2_with fail
  refine (gmXor_any z3 v q B N0 N1 _ _ _ _ _ M3 h0 h1 (by omega)).mono ?_
  rintro e w4 ⟨R4, c4, z4, rfl, hz4, M4, t4⟩
  have T4 := T3.trans t4
  have y4 := y3.mk t4 M3 (by decide) (by decide)
  have x4 := x3.mk t4 M3 (by decide) (by decide)
  have cm4 := y4.cell (i := 0) rfl
  have cs4 := x4.cell (i := 0) rfl
  clear t4 T3 M3 y3 x3
  go_wp2_with fail
  go_ret
  refine ⟨_, n + 1 + 1 + 1, _, G ++ [(0, u, v), (1, s, z2), (0, z3, v)], z4, rfl, ?_, by omega, by simpa using M4, T4⟩
  intro us vs k hu hv
  rw [pickStep, hu, hv, HG1.out, hz2.out, hz3.out, hz4.out]
  simp
  try omega

set_option maxRecDepth 100000 in
set_option maxHeartbeats 2000000 in
theorem pairPick_any (k : Nat) (u : Int) (us : List Int) (hu : us.getD k 0 = u) (bf bb : Nat) (A2 : Option Addr) (nb cb : Nat) (vs : List Int) (bm bs : Nat) (s : Int) (q B N0 N1 : Nat) (R : Option Addr) (n c : Nat) (G : List Ga) (w : World) (hM : Mk w 82 q B N0 N1 R n c G) (h0 : N0 ≤ 1000) (h1 : N1 ≤ 1000) (hn : n ≤ 999990) (hbf : Blk w bf #[.func (.func 165) #[] #[.pointer (some ⟨bm, 0, none⟩), .pointer (some ⟨bs, 0, none⟩)]] 77) (hbb : Blk w bb #[.slice A2 nb cb] 23) (hB : HasI w A2 nb vs) (hk : k < nb) (hbm : Blk w bm #[.pointer (some ⟨q, 0, none⟩)] 120) (hbs : Blk w bs #[.int .i64 s] 3) :
    Calls Try.prog 175 #[.int .i64 (k : Int), .int .i64 u, .pointer (some ⟨bf, 0, none⟩), .pointer (some ⟨bb, 0, none⟩)] w fun e w' => ∃ (R' : Option Addr) (n' c' : Nat) (G' : List Ga) (z : Int), e = .returned (.int .i64 z) ∧ Hid (pickStep (N0 + N1) s us vs k G = (G', z)) ∧ n' ≤ n + 3 ∧ Mk w' 82 q B N0 N1 R' n' c' G' ∧ MkTo q w (blockOf R) w' (blockOf R') := by
  obtain ⟨bd, v, eB, hcv, HV⟩ := hB.1.elem hk
  have HK : Hid (∀ (R' : Option Addr) (w' : World), MkTo q w (blockOf R) w' (blockOf R') → w'.cell? ⟨bf, 0, none⟩ = some (.func (.func 165) #[] #[.pointer (some ⟨bm, 0, none⟩), .pointer (some ⟨bs, 0, none⟩)]) ∧ w'.cell? ⟨bb, 0, none⟩ = some (.slice (some bd) nb cb) ∧ w'.cell? (bd.add k) = some (.int .i64 v)) := fun R' w' hT => by
    obtain ⟨_, e1, _, g1⟩ := (hB.mk hT hM).1.2 (by omega)
    rw [eB] at e1
    injection e1 with e1
    subst e1
    exact ⟨(hbf.mk hT hM (by decide) (by decide)).cell (i := 0) rfl, by rw [← eB]; exact (hbb.mk hT hM (by decide) (by decide)).cell (i := 0) rfl, by rw [HV.out]; exact g1 k hk⟩
  subst eB
  have cf := hbf.cell (i := 0) rfl
  have cb0 := hbb.cell (i := 0) rfl
  have q0 : (0 : Int) ≤ (k : Int) := by omega
  have q1 : (k : Int) < (nb : Int) := by omega
  have T0 : MkTo q w (blockOf R) w.drew (blockOf R) := (MkTo.refl q w _).drew
  have HC := Lib.hid (gmChoose1_any u v bm bs s q B N0 N1 R n c G w.drew hM.drew h0 h1 hn hbm hbs)
  have HUs := Lib.hid hu
  clear hu hM
  go_enter Try.func175, Try.ntmps175
  go_wp2_with fail
  first | (go_region_held3 (fun w' => w'.cell? ⟨bf, 0, none⟩ = some (.func (.func 165) #[] #[.pointer (some ⟨bm, 0, none⟩), .pointer (some ⟨bs, 0, none⟩)]) ∧ w'.cell? ⟨bb, 0, none⟩ = some (.slice (some bd) nb cb) ∧ w'.cell? (bd.add k) = some (.int .i64 v)) (first | exact HK.out _ _ T0 | exact HK.out _ _ T1 | go_keep) (first | (refine call_eq (args1 := #[.int .i64 u, .int .i64 v, .pointer (some ⟨bm, 0, none⟩), .pointer (some ⟨bs, 0, none⟩)]) (w1 := w.drew) (by simp) rfl ?_; refine Calls.mono HC.out ?_; rintro e w1 ⟨R1, n1, c1, G1, z1, rfl, hs1, hn1, M1, t1⟩; have T1 := T0.trans t1))) | fail
  go_wp2_with fail
  go_ret
  exact ⟨R1, n1, c1, G1, z1, rfl, hs1.out us vs k HUs.out HV.out.symm, hn1, M1, T1⟩

set_option maxRecDepth 100000 in
set_option maxHeartbeats 2000000 in
theorem changedPick_any (bf bb : Nat) (A : Option Addr) (na ca : Nat) (us : List Int) (A2 : Option Addr) (nb cb : Nat) (vs : List Int) (bm bs : Nat) (s : Int) (q B N0 N1 : Nat) (R : Option Addr) (n c : Nat) (G : List Ga) (w : World) (hM : Mk w 82 q B N0 N1 R n c G) (h0 : N0 ≤ 1000) (h1 : N1 ≤ 1000) (hn : n ≤ 900000) (hA : HasI w A na us) (hB : HasI w A2 nb vs) (hab : na ≤ nb) (ha : na ≤ 1000) (hbf : Blk w bf #[.func (.func 165) #[] #[.pointer (some ⟨bm, 0, none⟩), .pointer (some ⟨bs, 0, none⟩)]] 77) (hbb : Blk w bb #[.slice A2 nb cb] 23) (hbm : Blk w bm #[.pointer (some ⟨q, 0, none⟩)] 120) (hbs : Blk w bs #[.int .i64 s] 3) :
    Calls Try.prog 70 #[.slice A na ca, .func (.func 175) #[] #[.pointer (some ⟨bf, 0, none⟩), .pointer (some ⟨bb, 0, none⟩)]] w fun e w' => ∃ (R' : Option Addr) (n' c' : Nat) (O : Option Addr) (G' : List Ga) (os : List Int), e = .returned (.slice O na na) ∧ Hid (eachTo (pickStep (N0 + N1) s us vs) G na = (G', os)) ∧ Own w' w.heap.size O na na os ∧ Mk w' 82 q B N0 N1 R' n' c' G' ∧ MkTo q w (blockOf R) w' (blockOf R') := by
  have HLs : Hid ((eachTo (pickStep (N0 + N1) s us vs) G na).2.length = na) := eachTo_length _ _ _
  have HPre : Hid (∀ j, j < na → (vals (eachTo (pickStep (N0 + N1) s us vs) G na).2)[j]? = some (.int .i64 ((eachTo (pickStep (N0 + N1) s us vs) G (j + 1)).2.getD j 0))) := fun j hj => by
    rw [vals_at _ _ (by rw [eachTo_length]; exact hj), eachTo_pre _ _ hj]
  go_enter Try.func70, Try.ntmps70
  go_wp2_with (at_make; refine makeInts _ rfl _ rfl na rfl (by omega) ?_; intro w1 hf hb1)
  have hf := hf (vals (eachTo (pickStep (N0 + N1) s us vs) G na).2)
  have M1 := hM.below hb1
  have T1 := (MkTo.refl q w (blockOf R)).next hb1
  go_loopw [13] (fun iv wr => ∃ (k : Nat) (R' : Option Addr) (n' c' : Nat) (Gk : List Ga) (ok : List Int), k ≤ na ∧ iv = .int .i64 k ∧ Hid (eachTo (pickStep (N0 + N1) s us vs) G k = (Gk, ok)) ∧ n' ≤ n + 3 * k ∧ Filled wr w.heap.size 3 w.heap.size na (vals (eachTo (pickStep (N0 + N1) s us vs) G na).2) (fun j => j < k) ∧ Mk wr 82 q B N0 N1 R' n' c' Gk ∧ MkTo q w (blockOf R) wr (blockOf R')) (fun iv _ => na - (intOf iv).toNat)
  case atStart => exact ⟨0, R, n, c, G, [], Nat.zero_le _, rfl, rfl, by omega, hf, M1, T1⟩
  case round =>
    obtain ⟨k, R3, n3, c3, Gk, ok, hk, rfl, HS, hn3, hf3, M3, T3⟩ := hrel
    by_cases hlt : k < na
    · have hA3 := hA.to T3 hM
      have hB3 := hB.to T3 hM
      have f3 := hbf.mk T3 hM (by decide) (by decide)
      have b3 := hbb.mk T3 hM (by decide) (by decide)
      have m3 := hbm.mk T3 hM (by decide) (by decide)
      have s3 := hbs.mk T3 hM (by decide) (by decide)
      obtain ⟨ad, u, rfl, hcu, HU⟩ := hA3.1.elem hlt
      have HC := Lib.hid (pairPick_any k u us HU.out.symm bf bb A2 nb cb vs bm bs s q B N0 N1 R3 n3 c3 Gk wr M3 h0 h1 (by omega) f3 b3 hB3 (by omega) m3 s3)
      have q0 : (0 : Int) ≤ (k : Int) := by omega
      have q1 : (k : Int) < (na : Int) := by omega
      clear hA3 hB3 f3 b3 m3 s3
      go_wp2_with fail
      refine (HC.out).mono ?_
      rintro e w4 ⟨R4, n4, c4, G4, z4, rfl, hs4, hn4, M4, t4⟩
      have hf4 := hf3.mk t4 M3
      have T4 := T3.trans t4
      obtain ⟨y4, hy4⟩ := hf4.cell hlt
      have fr4 := hf4.free k
      have key : Hid (eachTo (pickStep (N0 + N1) s us vs) G (k + 1) = (G4, ok ++ [z4])) := by
        show _ = _
        rw [eachTo_succ, HS.out]
        simp only
        rw [hs4.out]
      have HP : Hid ((vals (eachTo (pickStep (N0 + N1) s us vs) G na).2)[k]? = some (.int .i64 z4)) := by
        show _ = _
        rw [HPre.out k hlt, key.out]
        have hl : ok.length = k := by have := eachTo_length (pickStep (N0 + N1) s us vs) G k; rw [HS.out] at this; exact this
        simp [List.getD, hl]
      clear HC t4 M3 hf3 T3
      go_wp2_with fail
      have M5 := M4.wrote hf4 k (.int .i64 z4)
      have T5 := T4.grown (grown_setCell (World.grownBy.refl w4 (some w.heap.size)) k (.int .i64 z4)) (fun x e => by injection e with e; omega)
      have hf5 := hf4.put (D' := fun j => j < k + 1) hlt HP.out (by intro j _ hj; omega)
      go_roundw
      case rel => exact ⟨k + 1, R4, n4, c4, G4, _, by omega, by go_num, key, by omega, hf5, M5, T5⟩
      case measure => simp [intOf]; omega
    · obtain rfl : k = na := by omega
      go_wp2_with fail
      go_ret
      refine ⟨R3, n3, c3, some ⟨w.heap.size, 0, none⟩, Gk, ok, rfl, HS, ?_, M3, T3⟩
      have h9 := hf3.full (by rw [vals_length, HLs.out]) (fun j hj => hj)
      have hl := HLs.out
      rw [HS.out] at h9 hl
      exact ⟨hl, h9⟩

set_option maxHeartbeats 1000000 in
theorem eachPick_any (A : Option Addr) (na ca : Nat) (us : List Int) (A2 : Option Addr) (nb cb : Nat) (vs : List Int) (bm bs : Nat) (s : Int) (q B N0 N1 : Nat) (R : Option Addr) (n c : Nat) (G : List Ga) (w : World) (hM : Mk w 82 q B N0 N1 R n c G) (h0 : N0 ≤ 1000) (h1 : N1 ≤ 1000) (hn : n ≤ 900000) (hA : HasI w A na us) (hB : HasI w A2 nb vs) (hab : na ≤ nb) (ha : na ≤ 1000) (hbm : Blk w bm #[.pointer (some ⟨q, 0, none⟩)] 120) (hbs : Blk w bs #[.int .i64 s] 3) :
    Calls Try.prog 164 #[.slice A na ca, .slice A2 nb cb, .func (.func 165) #[] #[.pointer (some ⟨bm, 0, none⟩), .pointer (some ⟨bs, 0, none⟩)]] w fun e w' => ∃ (R' : Option Addr) (n' c' : Nat) (O : Option Addr) (G' : List Ga) (os : List Int), e = .returned (.slice O na na) ∧ Hid (eachTo (pickStep (N0 + N1) s us vs) G na = (G', os)) ∧ Own w' w.heap.size O na na os ∧ Mk w' 82 q B N0 N1 R' n' c' G' ∧ MkTo q w (blockOf R) w' (blockOf R') := by
  have y1 := Blk.new w #[.slice A2 nb cb] 23
  have b1 := belowNew w (.cells #[.slice A2 nb cb] 23)
  obtain ⟨w1, hw1⟩ : ∃ W, W = w.alloc (.cells #[.slice A2 nb cb] 23) := ⟨_, rfl⟩
  rw [← hw1] at y1 b1
  have s1 : w1.heap.size = w.heap.size + 1 := by rw [hw1]; simp
  have y2 := Blk.newAt (k := w.heap.size + 1) w1 #[.func (.func 165) #[] #[.pointer (some ⟨bm, 0, none⟩), .pointer (some ⟨bs, 0, none⟩)]] 77 s1.symm
  have b2 := belowNew w1 (.cells #[.func (.func 165) #[] #[.pointer (some ⟨bm, 0, none⟩), .pointer (some ⟨bs, 0, none⟩)]] 77)
  obtain ⟨w2, hw2⟩ : ∃ W, W = w1.alloc (.cells #[.func (.func 165) #[] #[.pointer (some ⟨bm, 0, none⟩), .pointer (some ⟨bs, 0, none⟩)]] 77) := ⟨_, rfl⟩
  rw [← hw2] at y2 b2
  have x2 := y1.below' b2
  have B2 := b1.trans (b2.mono b1.size)
  have sz := B2.size
  have HC := Lib.hid (changedPick_any (w.heap.size + 1) w.heap.size A na ca us A2 nb cb vs bm bs s q B N0 N1 R n c G w2 (hM.below B2) h0 h1 hn (hA.below B2) (hB.below B2) hab ha y2 x2 (hbm.below' B2) (hbs.below' B2))
  have HB2 := Lib.hid B2
  clear y1 b1 y2 b2 x2 B2 s1
  go_enter Try.func164, Try.ntmps164
  go_wp2_with fail
  rw [← hw1, ← hw2]
  clear hw1 hw2
  refine call_eq (args1 := #[.slice A na ca, .func (.func 175) #[] #[.pointer (some ⟨w.heap.size + 1, 0, none⟩), .pointer (some ⟨w.heap.size, 0, none⟩)]]) (w1 := w2) (by simp) rfl (Calls.mono HC.out ?_)
  rintro e w3 ⟨R', n', c', O, G', os, rfl, h2, h3, h4, h5⟩
  go_wp2_with fail
  go_ret
  exact ⟨R', n', c', O, G', os, rfl, h2, h3.mono sz, h4, MkTo.after HB2.out h5⟩

end Go.Proofs.Yteiibneaihdmbaa
