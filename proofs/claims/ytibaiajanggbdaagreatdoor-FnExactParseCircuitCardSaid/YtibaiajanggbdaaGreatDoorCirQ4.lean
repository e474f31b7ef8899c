/- The program's reading of the lines of a circuit. For at most 1048577 lines of at most 1048576 bytes. -/
import Derived.Test.YtibaiajanggbdaaGreatDoorCirQ3
namespace Go.Proofs.YtibaiajanggbdaaGreatDoor
open Go.RowKit Go.Maps
set_option maxRecDepth 100000

def midL (ls : List ByteArray) : List ByteArray := (ls.drop 1).take (ls.length - 2)
def pHead (ls : List ByteArray) : Bool := (pLine (wordAt ls 0)).2.2 && (same (pLine (wordAt ls 0)).1 circB && decide ((pLine (wordAt ls 0)).2.1.length = 2))
def pLast (ls : List ByteArray) : Bool := (pLine (wordAt ls (ls.length - 1))).2.2 && same (pLine (wordAt ls (ls.length - 1))).1 outsB
def pRead (ls : List ByteArray) : Ci × Bool :=
  if ls.length < 2 then (⟨0, 0, [], []⟩, false)
  else if pHead ls = false then (⟨0, 0, [], []⟩, false)
  else if pLast ls = false then (⟨0, 0, [], []⟩, false)
  else (⟨(pLine (wordAt ls 0)).2.1.getD 0 0, (pLine (wordAt ls 0)).2.1.getD 1 0, (pGates (midL ls)).1, (pLine (wordAt ls (ls.length - 1))).2.1⟩, (pGates (midL ls)).2)

set_option maxRecDepth 100000 in
set_option maxHeartbeats 8000000 in
theorem readCircuit_any (B n g cp : Nat) (ls : List ByteArray) (RC : Ci) (rb : Bool) (w : World) (h : Strs w B (.slice (some ⟨g, 0, none⟩) n cp) n ls) (hn : n ≤ 1048577) (hncp : n ≤ cp) (hz : ∀ j, j < n → (wordAt ls j).size ≤ 1048576) (hW : Words w) (hR : Reads w) (hm : pRead ls = (RC, rb)) :
    Calls Tryz.prog 63 #[.slice (some ⟨g, 0, none⟩) n cp] w fun e w' => ∃ u, e = .returned (.tuple #[u, .bool rb]) ∧ OwnC w' w.heap.size u RC ∧ Below w.heap.size w w' := by
  have HM := Lib.hid hm
  have HL : Hid (ls.length = n) := h.1
  have HZ := Lib.hid hz
  have b1 := belowNew w (.cells #[.int .i64 0, .int .i64 0, .slice none 0 0, .slice none 0 0] 27)
  have r1 := Blk.new w #[.int .i64 0, .int .i64 0, .slice none 0 0, .slice none 0 0] 27
  obtain ⟨W1, hW1⟩ : ∃ W, W = w.alloc (.cells #[.int .i64 0, .int .i64 0, .slice none 0 0, .slice none 0 0] 27) := ⟨_, rfl⟩
  have s1 : W1.heap.size = w.heap.size + 1 := by rw [hW1]; simp
  rw [← hW1] at b1 r1
  have HS1 := Lib.hid (h.below b1)
  have HWd := Lib.hid (hW.below b1)
  have HRd := Lib.hid (hR.below b1)
  have zeroOut : ∀ (wx : World), Below W1.heap.size W1 wx → rb = false → RC = ⟨0, 0, [], []⟩ → Blk wx w.heap.size #[.int .i64 0, .int .i64 0, .slice none 0 0, .slice none 0 0] 27 := fun wx hb _ _ => r1.below' hb
  have HR1 : Hid (∀ (wx : World), Below W1.heap.size W1 wx → Blk wx w.heap.size #[.int .i64 0, .int .i64 0, .slice none 0 0, .slice none 0 0] 27) := fun wx hb => r1.below' hb
  clear hm hz h hW hR zeroOut
  by_cases h2 : n < 2
  · have e := HM.out
    rw [pRead, if_pos (by rw [HL.out]; exact h2)] at e
    obtain ⟨rfl, rfl⟩ := Prod.mk.inj e
    have q1 : (n : Int) < 2 := by omega
    obtain ⟨z0, z1, z2, z3⟩ := r1.four
    have f0 := r1.free 0
    have f1 := r1.free 1
    have f2 := r1.free 2
    have f3 := r1.free 3
    rw [hW1] at z0 z1 z2 z3 f0 f1 f2 f3
    have HB1 := Lib.hid b1
    clear e h2 b1 HM
    go_enter Tryz.func63, Tryz.ntmps63
    go_wp2_with fail
    rw [← hW1]
    obtain ⟨e0, e1, e2, e3⟩ := r1.four
    refine bodyPost_ret (v := .tuple #[.agg #[.int .i64 0, .int .i64 0, .slice none 0 0, .slice none 0 0], .bool false]) (by simp [results, Tryz.results63, go_sem, e0, e1, e2, e3]) rfl ⟨_, rfl, ⟨none, 0, 0, none, 0, 0, rfl, ⟨rfl, World.ownsRow_nil _ _ _ _⟩, Own.nil_ _ _⟩, ?_⟩
    exact HB1.out
  · obtain ⟨m, rfl⟩ : ∃ m, n = m + 2 := ⟨n - 2, by omega⟩
    have q1 : (2 : Int) ≤ ((m + 2 : Nat) : Int) := by omega
    have q2 : (0 : Int) < ((m + 2 : Nat) : Int) := by omega
    have hlen2 : ¬ ls.length < 2 := by rw [HL.out]; exact h2
    obtain ⟨x0, zs0, ok0, hp0⟩ : ∃ x zs b, pLine (wordAt ls 0) = (x, zs, b) := ⟨_, _, _, rfl⟩
    obtain ⟨x1, zs1, ok1, hp1⟩ : ∃ x zs b, pLine (wordAt ls (m + 1)) = (x, zs, b) := ⟨_, _, _, rfl⟩
    have c0 := wordsIn HS1.out 0 (by omega)
    have HRl0 := Lib.hid (readLine_any (wordAt ls 0) x0 zs0 ok0 W1 (HZ.out 0 (by omega)) HRd.out hp0)
    obtain ⟨sm0, hs0⟩ : ∃ b, same x0 circB = b := ⟨_, rfl⟩
    have HS0 := Lib.hid hs0
    have hs0' : (x0.toList == [99, 105, 114, 99, 117, 105, 116]) = sm0 := by rw [← circB_list]; exact hs0
    have HP0 : Hid (pHead ls = (ok0 && (sm0 && decide (zs0.length = 2)))) := by show _ = _; rw [pHead, hp0, HS0.out]
    have HP1 : Hid (pLast ls = (ok1 && same x1 outsB)) := by show _ = _; rw [pLast, HL.out, show m + 2 - 1 = m + 1 by omega, hp1]
    have HPr : Hid (pHead ls = true → pLast ls = true → (RC, rb) = (⟨zs0.getD 0 0, zs0.getD 1 0, (pGates (midL ls)).1, zs1⟩, (pGates (midL ls)).2)) := fun a b => by
      have e := HM.out
      rw [pRead, if_neg hlen2, a, b, HL.out, show m + 2 - 1 = m + 1 by omega, hp0, hp1] at e
      simpa using e.symm
    have HNo : Hid (pHead ls = false ∨ pLast ls = false → (RC, rb) = (⟨0, 0, [], []⟩, false)) := fun a => by
      have e := HM.out
      rw [pRead, if_neg hlen2] at e
      rcases a with a | a
      · rw [if_pos a] at e; exact e.symm
      · rw [if_pos a] at e
        split at e <;> exact e.symm
    clear hp0 hs0 hlen2 HM
    go_enter Tryz.func63, Tryz.ntmps63
    go_upto_region 3 with fail
    rw [← hW1]
    clear hW1
    go_wp2_with fail
    refine (HRl0.out).mono ?_
    rintro e w2 ⟨R0, m0, d0, rfl, o0, hm0, b2⟩
    have hz0l : zs0.length = m0 := o0.1
    obtain ⟨l2, hl2⟩ : ∃ b, decide (m0 = 2) = b := ⟨_, rfl⟩
    rw [hz0l, hl2] at HP0
    have hl2' : (((m0 : Nat) : Int) != 2) = !l2 := by
      rw [← hl2]
      cases h : decide (m0 = 2) with
      | true => have : m0 = 2 := by simpa using h
                subst this; rfl
      | false => have : m0 ≠ 2 := by simpa using h
                 simp; omega
    go_upto_region 4 with fail
    go_cut [32] (fun vq wx => vq = .bool (!(ok0 && (sm0 && l2))) ∧ wx = w2)
    case first =>
      cases ok0 with
      | false =>
        go_wp2_with fail
        go_meet
        exact ⟨by simp, rfl⟩
      | true =>
        cases sm0 with
        | false =>
          go_wp2_with fail
          go_meet
          exact ⟨by simp, rfl⟩
        | true =>
          go_wp2_with fail
          go_meet
          exact ⟨by simp, rfl⟩
    case rest =>
    obtain ⟨rfl, hwx⟩ := hcut
    obtain ⟨w3, rfl⟩ : ∃ x, x = wc := ⟨_, rfl⟩
    subst hwx
    have Bw3 := b1.trans (b2.mono b1.size)
    cases hq0 : (ok0 && (sm0 && l2)) with
    | false =>
      have e := HNo.out (.inl (by rw [HP0.out]; exact hq0))
      obtain ⟨rfl, rfl⟩ := Prod.mk.inj e
      have r3 := HR1.out w3 b2
      obtain ⟨z0, z1, z2, z3⟩ := r3.four
      have f0 := r3.free 0
      have f1 := r3.free 1
      have f2 := r3.free 2
      have f3 := r3.free 3
      clear e HPr HNo
      go_wp2_with fail
      have rz := (((r3.set 0 (.int .i64 0)).set 1 (.int .i64 0)).set 2 (.slice none 0 0)).set 3 (.slice none 0 0)
      obtain ⟨e0, e1, e2, e3⟩ := (show Blk _ w.heap.size #[.int .i64 0, .int .i64 0, .slice none 0 0, .slice none 0 0] 27 from rz).four
      refine bodyPost_ret (v := .tuple #[.agg #[.int .i64 0, .int .i64 0, .slice none 0 0, .slice none 0 0], .bool false]) (by simp [results, Tryz.results63, go_sem, e0, e1, e2, e3]) rfl ⟨_, rfl, ⟨none, 0, 0, none, 0, 0, rfl, ⟨rfl, World.ownsRow_nil _ _ _ _⟩, Own.nil_ _ _⟩, ?_⟩
      exact (((Bw3.setCell (Nat.le_refl _) _).setCell (Nat.le_refl _) _).setCell (Nat.le_refl _) _).setCell (Nat.le_refl _) _
    | true =>
      obtain ⟨rfl, hq01⟩ : ok0 = true ∧ (sm0 && l2) = true := by simpa using hq0
      obtain ⟨rfl, rfl⟩ : sm0 = true ∧ l2 = true := by simpa using hq01
      have hm02 : m0 = 2 := by simpa using hl2
      subst hm02
      have HH : Hid (pHead ls = true) := by show _ = _; rw [HP0.out]; exact hq0
      have xw : IntKind.i64.wrap (((m + 2 : Nat) : Int) - 1) = ((m + 1 : Nat) : Int) := by rw [wrapIn (by omega) (by omega)]; omega
      have q3 : (0 : Int) ≤ ((m + 1 : Nat) : Int) := by omega
      have q4 : ((m + 1 : Nat) : Int) < ((m + 2 : Nat) : Int) := by omega
      have hs3 := HS1.out.below b2
      have c1 := wordsIn hs3 (m + 1) (by omega)
      have HRl1 := Lib.hid (readLine_any (wordAt ls (m + 1)) x1 zs1 ok1 w3 (HZ.out (m + 1) (by omega)) (HRd.out.below b2) hp1)
      obtain ⟨sm1, hs1⟩ : ∃ b, same x1 outsB = b := ⟨_, rfl⟩
      have hs1' : (x1.toList == [111, 117, 116, 115]) = sm1 := by rw [← outsB_list]; exact hs1
      rw [hs1] at HP1
      clear hq0 hq01 hl2 hl2' hs0' hs3 hp1 hs1 c0 HRl0
      go_wp2_with fail
      refine (HRl1.out).mono ?_
      rintro e w4 ⟨R1, m1, d1, rfl, o1, hm1, b4⟩
      have B4 := b2.trans (b4.mono b2.size)
      have o04 := o0.below b4
      go_upto_region 7 with fail
      go_cut [50] (fun vq wx => vq = .bool (!(ok1 && sm1)) ∧ wx = w4)
      case first =>
        cases ok1 with
        | false =>
          go_wp2_with fail
          go_meet
          exact ⟨by simp, rfl⟩
        | true =>
          go_wp2_with fail
          go_meet
          exact ⟨by simp, rfl⟩
      case rest =>
      obtain ⟨rfl, hwx⟩ := hcut
      obtain ⟨w5, rfl⟩ : ∃ x, x = wc := ⟨_, rfl⟩
      subst hwx
      have Bw5 := b1.trans (B4.mono b1.size)
      cases hq1 : (ok1 && sm1) with
      | false =>
        have e := HNo.out (.inr (by rw [HP1.out]; exact hq1))
        obtain ⟨rfl, rfl⟩ := Prod.mk.inj e
        have r5 := HR1.out w5 B4
        obtain ⟨z0, z1, z2, z3⟩ := r5.four
        have f0 := r5.free 0
        have f1 := r5.free 1
        have f2 := r5.free 2
        have f3 := r5.free 3
        clear e HPr HNo
        go_wp2_with fail
        have rz := (((r5.set 0 (.int .i64 0)).set 1 (.int .i64 0)).set 2 (.slice none 0 0)).set 3 (.slice none 0 0)
        obtain ⟨e0, e1, e2, e3⟩ := (show Blk _ w.heap.size #[.int .i64 0, .int .i64 0, .slice none 0 0, .slice none 0 0] 27 from rz).four
        refine bodyPost_ret (v := .tuple #[.agg #[.int .i64 0, .int .i64 0, .slice none 0 0, .slice none 0 0], .bool false]) (by simp [results, Tryz.results63, go_sem, e0, e1, e2, e3]) rfl ⟨_, rfl, ⟨none, 0, 0, none, 0, 0, rfl, ⟨rfl, World.ownsRow_nil _ _ _ _⟩, Own.nil_ _ _⟩, ?_⟩
        exact (((Bw5.setCell (Nat.le_refl _) _).setCell (Nat.le_refl _) _).setCell (Nat.le_refl _) _).setCell (Nat.le_refl _) _
      | true =>
        obtain ⟨rfl, rfl⟩ : ok1 = true ∧ sm1 = true := by simpa using hq1
        have hRC := HPr.out HH.out (by rw [HP1.out]; exact hq1)
        obtain ⟨hRC1, hRC2⟩ := Prod.mk.inj hRC
        obtain ⟨gs, gb, hgs⟩ : ∃ gs gb, pGates (midL ls) = (gs, gb) := ⟨_, _, rfl⟩
        rw [hgs] at hRC1 hRC2
        obtain rfl : rb = gb := hRC2
        have HRC : Hid (RC = ⟨zs0.getD 0 0, zs0.getD 1 0, gs, zs1⟩) := hRC1
        have hs5 := HS1.out.below B4
        have hmid : HasS w5 (some ⟨g, 1, none⟩) m (midL ls) := by
          refine ⟨by rw [midL, List.length_take, List.length_drop, HL.out]; omega, fun _ => ⟨_, rfl, ?_, fun k hk => ?_⟩⟩
          · exact (hs5.2.lt g rfl).2
          · rw [Lib.add_plain, wordsIn hs5 (1 + k) (by omega)]
            congr 2
            have h1 : 1 + k < ls.length := by rw [HL.out]; omega
            have h2 : k < ls.length - 2 := by rw [HL.out]; omega
            simp [midL, wordAt, List.getD_eq_getElem?_getD, h2]
            rw [Nat.add_comm 1 k]
        have hmz : ∀ j, j < m → (wordAt (midL ls) j).size ≤ 1048576 := fun j hj => by
          have h1 := HZ.out (1 + j) (by omega)
          have h2 : j < ls.length - 2 := by rw [HL.out]; omega
          have e : wordAt (midL ls) j = wordAt ls (1 + j) := by
            simp [midL, wordAt, List.getD_eq_getElem?_getD, h2]
            rw [Nat.add_comm j 1]
          rw [e]
          exact h1
        have HG := Lib.hid (readGates_any (some ⟨g, 1, none⟩) m (cp - 1) (midL ls) gs rb w5 hmid (by omega) hmz (HWd.out.below B4) (HRd.out.below B4) hgs)
        have q5 : (1 : Int) ≤ ((m + 1 : Nat) : Int) := by omega
        have q6 : ((m + 1 : Nat) : Int) ≤ (cp : Int) := by omega
        have hcp1 : ¬ cp = 1 := by omega
        clear hq1 hRC hRC1 hgs hs1' HRl1 hmid hmz hs5 c1 HPr HNo
        go_wp2_with fail
        refine (HG.out).mono ?_
        rintro e w6 ⟨RG, mg, dg, rfl, og, hmg, b6⟩
        have B6 := B4.trans (b6.mono B4.size)
        have o06 := o04.below b6
        have o16 := o1.below b6
        have r6 := HR1.out w6 B6
        have Bw6 := b1.trans (B6.mono b1.size)
        obtain ⟨z0, z1, z2, z3⟩ := r6.four
        have f0 := r6.free 0
        have f1 := r6.free 1
        have f2 := r6.free 2
        have f3 := r6.free 3
        obtain ⟨g0, cap0, hv0, _, _⟩ := o06.2.form (by omega)
        injection hv0 with hva hvb hvc
        subst hva hvc
        obtain ⟨y0, y1, hzs⟩ : ∃ y0 y1, zs0 = [y0, y1] := by
          match zs0, o06.1 with
          | [a, b], _ => exact ⟨a, b, rfl⟩
        subst hzs
        have ca0 : w6.cell? ⟨g0, 0, none⟩ = some (.int .i64 y0) := by rw [o06.2.cellAt 0 (by omega)]; rfl
        have ca1 : w6.cell? ⟨g0, 1, none⟩ = some (.int .i64 y1) := by rw [o06.2.cellAt 1 (by omega)]; rfl
        have ow : OwnC w6 W1.heap.size (.agg #[.int .i64 y0, .int .i64 y1, .slice RG mg dg, .slice R1 m1 d1]) ⟨y0, y1, gs, zs1⟩ := ⟨RG, mg, dg, R1, m1, d1, rfl, og.mono B4.size, o16.mono b2.size⟩
        have HRC2 : Hid (RC = ⟨y0, y1, gs, zs1⟩) := HRC.out
        clear HG o0 o04 o1 HRC o06 o16 og
        go_wp2_with fail
        go_region
        all_goals
          go_wp2_with fail
          have rz := (((r6.set 0 (.int .i64 y0)).set 1 (.int .i64 y1)).set 2 (.slice RG mg dg)).set 3 (.slice R1 m1 d1)
          obtain ⟨e0, e1, e2, e3⟩ := (show Blk _ w.heap.size #[.int .i64 y0, .int .i64 y1, .slice RG mg dg, .slice R1 m1 d1] 27 from rz).four
          have gz := grown_setCell (grown_setCell (grown_setCell (grown_setCell (World.grownBy.refl w6 (some w.heap.size)) 0 (.int .i64 y0)) 1 (.int .i64 y1)) 2 (.slice RG mg dg)) 3 (.slice R1 m1 d1)
          refine bodyPost_ret (v := .tuple #[.agg #[.int .i64 y0, .int .i64 y1, .slice RG mg dg, .slice R1 m1 d1], .bool rb]) (by simp [results, Tryz.results63, go_sem, e0, e1, e2, e3]) rfl ⟨_, rfl, ?_, ?_⟩
          · rw [HRC2.out]
            exact (ow.kept gz (by omega)).mono (by omega)
          · exact (Bw6.grown gz Bw6.size (fun k hk => by simp at hk; omega)).drew

end Go.Proofs.YtibaiajanggbdaaGreatDoor
