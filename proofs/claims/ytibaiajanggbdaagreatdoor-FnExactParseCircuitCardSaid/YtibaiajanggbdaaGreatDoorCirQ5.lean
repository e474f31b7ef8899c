/- The program's ParseCircuit. For every text of at most 1048576 bytes; the words of the gates and the powers of ten are as start-up lays them. -/
import Derived.Test.YtibaiajanggbdaaGreatDoorCirP7
import Derived.Test.YtibaiajanggbdaaGreatDoorCirL6
namespace Go.Proofs.YtibaiajanggbdaaGreatDoor
open Go Go.RowKit Go.Maps
set_option maxRecDepth 100000

/-! ## sizes of what is read -/
theorem pNum_i64 {s : ByteArray} {v : Int} (h : pNum s = some v) : I64 v := by
  unfold pNum at h
  split at h
  · rename_i v' he
    obtain rfl : v' = v := by simpa using h
    exact Lib.atoiAll_bounds he
  · cases h
theorem pNums_i64 (ws : List ByteArray) : ∀ z ∈ (pNums ws).1, I64 z := by
  intro z hz
  unfold pNums at hz
  split at hz
  · obtain ⟨j, _, rfl⟩ := List.mem_map.1 hz
    rw [numOf]
    cases h : pNum (wordAt ws j) with
    | none => exact ⟨by decide, by decide⟩
    | some v => exact pNum_i64 h
  · cases hz
theorem pNums_len (ws : List ByteArray) : (pNums ws).1.length ≤ ws.length := by
  unfold pNums
  split
  · rw [mapTo_length]; exact Nat.le_refl _
  · simp
theorem pieces_le (c : UInt8) (s : ByteArray) : (piecesB c s).length ≤ s.size + 1 := by
  rw [piecesB_length]
  have := Lib.countB_le ⟨#[c]⟩ (Nat.le_refl 1) s.size s (Nat.le_refl _)
  omega
theorem pLine_fit (l : ByteArray) : (∀ z ∈ (pLine l).2.1, I64 z) ∧ (pLine l).2.1.length ≤ l.size := by
  refine ⟨pNums_i64 _, ?_⟩
  have h1 := pNums_len ((piecesB 32 l).drop 1)
  have h2 := pieces_le 32 l
  rw [List.length_drop] at h1
  show (pNums ((piecesB 32 l).drop 1)).1.length ≤ l.size
  omega
theorem getD_i64 {zs : List Int} (h : ∀ z ∈ zs, I64 z) (j : Nat) : I64 (zs.getD j 0) := by
  by_cases hj : j < zs.length
  · have e : zs.getD j 0 = zs[j] := by simp [List.getD_eq_getElem?_getD, List.getElem?_eq_getElem hj]
    rw [e]
    exact h _ (List.getElem_mem hj)
  · have e : zs.getD j 0 = 0 := by simp [List.getD_eq_getElem?_getD, List.getElem?_eq_none (show zs.length ≤ j by omega)]
    rw [e]
    exact ⟨by decide, by decide⟩
theorem valTo_i64 (s : ByteArray) : I64 (valTo s 4) := by
  have : valTo s 4 = 3 ∨ valTo s 4 = 2 ∨ valTo s 4 = 1 ∨ valTo s 4 = 0 := by
    simp only [valTo]
    split
    · exact .inl rfl
    · split
      · exact .inr (.inl rfl)
      · split
        · exact .inr (.inr (.inl rfl))
        · split
          · exact .inr (.inr (.inr rfl))
          · exact .inr (.inr (.inr rfl))
  unfold I64
  omega
theorem gateR_64 (l : ByteArray) : G64 (gateR l).1 := ⟨valTo_i64 _, getD_i64 (pLine_fit l).1 0, getD_i64 (pLine_fit l).1 1⟩
theorem pRead_fit (ls : List ByteArray) (hn : ls.length ≤ 1048577) (hz : ∀ j, j < ls.length → (wordAt ls j).size ≤ 1048576) : Fit (pRead ls).1 := by
  have h0 : Fit ⟨0, 0, [], []⟩ := ⟨by simp, by simp, ⟨by decide, by decide⟩, ⟨by decide, by decide⟩, by simp, by simp⟩
  unfold pRead
  split
  · exact h0
  · split
    · exact h0
    · split
      · exact h0
      · rename_i h1 h2 h3
        have hl := pLine_fit (wordAt ls (ls.length - 1))
        have hs := hz (ls.length - 1) (by omega)
        have hm : (midL ls).length ≤ ls.length - 2 := by rw [midL, List.length_take]; omega
        refine ⟨?_, by show (pLine _).2.1.length ≤ _; omega, getD_i64 (pLine_fit _).1 0, getD_i64 (pLine_fit _).1 1, ?_, hl.1⟩
        · show (pGates (midL ls)).1.length ≤ _
          unfold pGates
          split
          · rw [List.length_map]; omega
          · simp
        · intro g hg
          have hg' : g ∈ (pGates (midL ls)).1 := hg
          unfold pGates at hg'
          split at hg'
          · obtain ⟨l, _, rfl⟩ := List.mem_map.1 hg'
            exact gateR_64 l
          · cases hg'
theorem pTrim_size (s : ByteArray) : (pTrim s).size ≤ s.size := by
  have e : (pTrim s).size = (Lib.trimSuffix s.data.toList [10]).length := rfl
  rw [e, Lib.trimSuffix]
  split
  · rw [List.length_take]
    have : s.data.toList.length = s.size := rfl
    omega
  · exact Nat.le_refl _
theorem sub_trim (s : ByteArray) : (⟨(Lib.trimSuffix s.data.toList (⟨#[10]⟩ : ByteArray).data.toList).toArray⟩ : ByteArray) = pTrim s := rfl

set_option maxRecDepth 100000 in
set_option maxHeartbeats 4000000 in
theorem impl_ParseCircuit (s : ByteArray) (RC : Ci) (rb : Bool) (w : World) (hs : s.size ≤ 1048576) (hW : Words w) (hT : Tens w) (hR : Reads w) (hm : m_ParseCircuit s = (RC, rb)) :
    Calls Tryz.prog 21 #[.string s] w fun e w' => ∃ u, e = .returned (.tuple #[u, .bool rb]) ∧ OwnC w' w.heap.size u RC ∧ RC.gs.length ≤ 1048576 ∧ RC.os.length ≤ 1048576 ∧ Below w.heap.size w w' := by
  rw [← parse_same] at hm
  obtain ⟨C, ok, hp⟩ : ∃ C ok, pRead (piecesB 10 (pTrim s)) = (C, ok) := ⟨_, _, rfl⟩
  obtain ⟨rt, rg, ht⟩ : ∃ rt rg, m_CircuitText C = (rt, rg) := ⟨_, _, rfl⟩
  have hts := pTrim_size s
  have hpl := pieces_le 10 (pTrim s)
  have hz : ∀ j, j < (piecesB 10 (pTrim s)).length → (wordAt (piecesB 10 (pTrim s)) j).size ≤ 1048576 := fun j hj => by
    have h1 : wordAt (piecesB 10 (pTrim s)) j ∈ piecesB 10 (pTrim s) := by simp [wordAt, List.getElem?_eq_getElem hj]
    have := piece_size 10 (pTrim s) _ h1
    omega
  have hfit : Fit C := by
    have := pRead_fit _ (by omega) hz
    rwa [hp] at this
  obtain ⟨eq, heq⟩ : ∃ b, same rt s = b := ⟨_, rfl⟩
  have HNo : Hid ((ok && (rg && eq)) = false → (RC, rb) = (⟨0, 0, [], []⟩, false)) := fun h => by
    rw [pParse, hp, if_neg] at hm
    · exact hm.symm
    · rintro ⟨h1, h2, h3⟩
      have h4 : rg = true ∧ rt = s := by
        rw [m_CircuitText, if_pos h2] at ht
        obtain ⟨rfl, rfl⟩ := Prod.mk.inj ht
        exact ⟨rfl, h3⟩
      have h5 : eq = true := by rw [← heq]; exact (same_iff _ _).2 h4.2
      have h1' : ok = true := h1
      rw [h1', h4.1, h5] at h
      cases h
  have HYes : Hid ((ok && (rg && eq)) = true → (RC, rb) = (C, true)) := fun h => by
    obtain ⟨h1, h2, h3⟩ : ok = true ∧ rg = true ∧ eq = true := by simpa using h
    have h4 : gd C = true ∧ strOfNums (textL C) = s := by
      rw [m_CircuitText] at ht
      split at ht
      · rename_i hg
        obtain ⟨e1, _⟩ := Prod.mk.inj ht
        rw [h3] at heq
        exact ⟨hg, e1.trans ((same_iff _ _).1 heq)⟩
      · obtain ⟨_, e2⟩ := Prod.mk.inj ht
        rw [h2] at e2
        cases e2
    rw [pParse, hp, if_pos ⟨h1, h4⟩] at hm
    exact hm.symm
  have hq1 : (rt.toList == s.toList) = eq := heq
  have hq2 : (rt.toList != s.toList) = !eq := by rw [← hq1]; rfl
  have HP := Lib.hid hp
  have HTx := Lib.hid ht
  have HZ := Lib.hid hz
  have HTs := Lib.hid hts
  have HPl := Lib.hid hpl
  have b1 := belowNew w (.cells #[.int .i64 0, .int .i64 0, .slice none 0 0, .slice none 0 0] 27)
  have r1 := Blk.new w #[.int .i64 0, .int .i64 0, .slice none 0 0, .slice none 0 0] 27
  obtain ⟨W1, hW1⟩ : ∃ W, W = w.alloc (.cells #[.int .i64 0, .int .i64 0, .slice none 0 0, .slice none 0 0] 27) := ⟨_, rfl⟩
  have s1 : W1.heap.size = w.heap.size + 1 := by rw [hW1]; simp
  rw [← hW1] at b1 r1
  obtain ⟨ts, hts2⟩ : ∃ x, pTrim s = x := ⟨_, rfl⟩
  have HTr : Hid (Calls Tryz.prog 65 #[.string s, .string ⟨#[10]⟩] W1 fun e w' => e = .returned (.string ts) ∧ W1 = w') := (trim_any s ⟨#[10]⟩ W1 hs).mono fun e w' h => ⟨by rw [← hts2, ← sub_trim]; exact h.1, h.2.symm⟩
  rw [hts2] at HZ HTs HPl HP
  have HSp := Lib.hid (split_any ts 10 W1 (Nat.le_trans HTs.out hs) (hR.below b1))
  obtain ⟨ls, hls⟩ : ∃ x, piecesB 10 ts = x := ⟨_, rfl⟩
  rw [hls] at HSp HZ HPl HP
  have HWd := Lib.hid (hW.below b1)
  have HRd := Lib.hid (hR.below b1)
  have HTd := Lib.hid (hT.below b1)
  have HR1 : Hid (∀ (wx : World), Below W1.heap.size W1 wx → Blk wx w.heap.size #[.int .i64 0, .int .i64 0, .slice none 0 0, .slice none 0 0] 27) := fun wx hb => r1.below' hb
  clear hm hp ht hts hpl hz heq hts2 hls hW hR hT
  go_enter Tryz.func21, Tryz.ntmps21
  go_wp2_with fail
  rw [← hW1]
  clear hW1
  refine (HTr.out).mono ?_
  rintro e w' ⟨rfl, rfl⟩
  go_wp2_with fail
  refine (HSp.out).mono ?_
  rintro e w2 ⟨v, n, rfl, hst, hn1, _, b2⟩
  obtain ⟨g, cp, rfl, hgw, hncp, _⟩ := wordsAt hst hn1
  have hl : ls.length = n := hst.1
  have hn2 : n ≤ 1048577 := by have := HPl.out; have := HTs.out; omega
  have HRc := Lib.hid (readCircuit_any _ n g cp ls C ok w2 hst hn2 hncp (fun j hj => HZ.out j (by omega)) (HWd.out.below b2) (HRd.out.below b2) HP.out)
  clear HTr HSp hst hl
  go_wp2_with fail
  refine (HRc.out).mono ?_
  rintro e w3 ⟨u, rfl, ow, b3⟩
  obtain ⟨G, gn, gc, O, om, od, rfl, hgg, hoo⟩ := id ow
  have B3 := b2.trans (b3.mono b2.size)
  have s2 := b2.size
  have b4 := belowNew w3 (.cells #[.int .i64 C.in0, .int .i64 C.in1, .slice G gn gc, .slice O om od] 27)
  have p4 := Blk.new w3 #[.int .i64 C.in0, .int .i64 C.in1, .slice G gn gc, .slice O om od] 27
  obtain ⟨w4, hw4⟩ : ∃ W, W = w3.alloc (.cells #[.int .i64 C.in0, .int .i64 C.in1, .slice G gn gc, .slice O om od] 27) := ⟨_, rfl⟩
  rw [← hw4] at b4 p4
  have B4 := B3.trans (b4.mono B3.size)
  have ow4 := ow.below b4
  have r4 := HR1.out w4 B4
  have Bw4 := b1.trans (B4.mono b1.size)
  have hlt3 : w.heap.size < w3.heap.size := by have := B3.size; omega
  clear HRc b2 b3 b4 B3 ow hgg hoo
  go_upto_region 2 with fail
  rw [← hw4]
  clear hw4
  cases ok with
  | false =>
    obtain ⟨rfl, rfl⟩ := Prod.mk.inj (HNo.out rfl)
    obtain ⟨z0, z1, z2, z3⟩ := r4.four
    have f0 := r4.free 0
    have f1 := r4.free 1
    have f2 := r4.free 2
    have f3 := r4.free 3
    clear HNo HYes
    go_wp2_with fail
    have rz := (((r4.set 0 (.int .i64 0)).set 1 (.int .i64 0)).set 2 (.slice none 0 0)).set 3 (.slice none 0 0)
    obtain ⟨e0, e1, e2, e3⟩ := (show Blk _ w.heap.size #[.int .i64 0, .int .i64 0, .slice none 0 0, .slice none 0 0] 27 from rz).four
    refine bodyPost_ret (v := .tuple #[.agg #[.int .i64 0, .int .i64 0, .slice none 0 0, .slice none 0 0], .bool false]) (by simp [results, Tryz.results21, go_sem, e0, e1, e2, e3]) rfl ⟨_, rfl, ⟨none, 0, 0, none, 0, 0, rfl, ⟨rfl, World.ownsRow_nil _ _ _ _⟩, Own.nil_ _ _⟩, ?_⟩
    exact (((Bw4.setCell (Nat.le_refl _) _).setCell (Nat.le_refl _) _).setCell (Nat.le_refl _) _).setCell (Nat.le_refl _) _
  | true =>
    have HCt := Lib.hid (impl_CircuitText (.agg #[.int .i64 C.in0, .int .i64 C.in1, .slice G gn gc, .slice O om od]) C rt rg w4 ow4.has hfit (HWd.out.below B4) (HTd.out.below B4) HTx.out)
    obtain ⟨k0, k1, k2, k3⟩ := p4.four
    go_wp2_with fail
    refine (HCt.out).mono ?_
    rintro e w5 ⟨rfl, b5⟩
    have B5 := B4.trans (b5.mono B4.size)
    have Bw5 := Bw4.trans (b5.mono Bw4.size)
    have p5 := p4.below' b5
    have ow5 := ow4.below b5
    have r5 := HR1.out w5 B5
    clear HCt b5 ow4 r4 k0 k1 k2 k3 p4
    go_upto_region 5 with fail
    go_cut [29] (fun vq wx => vq = .bool (!(rg && eq)) ∧ wx = w5)
    case first =>
      cases rg with
      | false =>
        go_wp2_with fail
        go_meet
        exact ⟨by simp, rfl⟩
      | true =>
        go_wp2_with fail
        go_meet
        exact ⟨by simp, rfl⟩
    case rest =>
    obtain ⟨rfl, hwx⟩ := hcut
    obtain ⟨w6, rfl⟩ : ∃ x, x = wc := ⟨_, rfl⟩
    subst hwx
    obtain ⟨z0, z1, z2, z3⟩ := r5.four
    have f0 := r5.free 0
    have f1 := r5.free 1
    have f2 := r5.free 2
    have f3 := r5.free 3
    clear hq1 hq2
    cases hq : (rg && eq) with
    | false =>
      obtain ⟨rfl, rfl⟩ := Prod.mk.inj (HNo.out (by rw [hq]; rfl))
      clear HNo HYes
      go_wp2_with fail
      have rz := (((r5.set 0 (.int .i64 0)).set 1 (.int .i64 0)).set 2 (.slice none 0 0)).set 3 (.slice none 0 0)
      obtain ⟨e0, e1, e2, e3⟩ := (show Blk _ w.heap.size #[.int .i64 0, .int .i64 0, .slice none 0 0, .slice none 0 0] 27 from rz).four
      refine bodyPost_ret (v := .tuple #[.agg #[.int .i64 0, .int .i64 0, .slice none 0 0, .slice none 0 0], .bool false]) (by simp [results, Tryz.results21, go_sem, e0, e1, e2, e3]) rfl ⟨_, rfl, ⟨none, 0, 0, none, 0, 0, rfl, ⟨rfl, World.ownsRow_nil _ _ _ _⟩, Own.nil_ _ _⟩, ?_⟩
      exact (((Bw5.setCell (Nat.le_refl _) _).setCell (Nat.le_refl _) _).setCell (Nat.le_refl _) _).setCell (Nat.le_refl _) _
    | true =>
      obtain ⟨rfl, rfl⟩ := Prod.mk.inj (HYes.out (by rw [hq]; rfl))
      obtain ⟨k0, k1, k2, k3⟩ := p5.four
      clear HNo HYes hq
      go_wp2_with fail
      have rz := (((r5.set 0 (.int .i64 RC.in0)).set 1 (.int .i64 RC.in1)).set 2 (.slice G gn gc)).set 3 (.slice O om od)
      obtain ⟨e0, e1, e2, e3⟩ := (show Blk _ w.heap.size #[.int .i64 RC.in0, .int .i64 RC.in1, .slice G gn gc, .slice O om od] 27 from rz).four
      have gz := grown_setCell (grown_setCell (grown_setCell (grown_setCell (World.grownBy.refl w6 (some w.heap.size)) 0 (.int .i64 RC.in0)) 1 (.int .i64 RC.in1)) 2 (.slice G gn gc)) 3 (.slice O om od)
      refine bodyPost_ret (v := .tuple #[.agg #[.int .i64 RC.in0, .int .i64 RC.in1, .slice G gn gc, .slice O om od], .bool true]) (by simp [results, Tryz.results21, go_sem, e0, e1, e2, e3]) rfl ⟨_, rfl, ?_, hfit.1, hfit.2.1, ?_⟩
      · exact (ow5.kept gz (by omega)).mono (by omega)
      · exact Bw5.grown gz Bw5.size (fun k hk => by simp at hk; omega)

end Go.Proofs.YtibaiajanggbdaaGreatDoor
