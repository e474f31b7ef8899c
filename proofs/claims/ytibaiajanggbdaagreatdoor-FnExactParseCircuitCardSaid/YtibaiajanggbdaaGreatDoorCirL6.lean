/- The program's CircuitText. For every circuit of at most 1048576 gates and outs; the words of the gates and the powers of ten are as start-up lays them. -/
import Derived.Test.YtibaiajanggbdaaGreatDoorCirL5
import Derived.Test.YtibaiajanggbdaaGreatDoorCirG16
import Derived.Test.YtibaiajanggbdaaGreatDoorCirIA
namespace Go.Proofs.YtibaiajanggbdaaGreatDoor
open Go.RowKit Go.Shelf
set_option maxRecDepth 100000

/-- The program's words of the kinds of gates lie where start-up lays them. -/
def Words (w : World) : Prop := ∀ k, k < 4 → w.cell? ⟨0, k, none⟩ = some (.string (kindB (k : Int)))
theorem Words.below {w w' : World} (h : Words w) (hb : Below w.heap.size w w') : Words w' := fun k hk => by
  have h1 := h k hk
  have hlt := World.block_lt_of_cell? w _ h1
  rw [World.cell?_of_block (hb.block _ hlt)]
  exact h1
def Tens (w : World) : Prop := Lib.TabIs Tryz.prog w "internal/strconv.uint64pow10" .u64 Lib.pow10Tab
theorem Tens.below {w w' : World} (h : Tens w) (hb : Below w.heap.size w w') : Tens w' := Lib.tabBelow_of_tabIs h w' hb

set_option maxRecDepth 100000 in
set_option maxHeartbeats 8000000 in
theorem impl_CircuitText (v : Value) (C : Ci) (rt : ByteArray) (rb : Bool) (w : World) (h : HasC w v C) (hf : Fit C) (hW : Words w) (hT : Tens w) (hm : m_CircuitText C = (rt, rb)) :
    Calls Tryz.prog 23 #[v] w fun e w' => e = .returned (.tuple #[.string rt, .bool rb]) ∧ Below w.heap.size w w' := by
  obtain ⟨G, n, c, O, q, d, rfl, hGs, hO, _, _, _, _⟩ := id h
  have hgl := hGs.1
  have HM := Lib.hid hm
  have B1 := belowNew w (.cells #[.int .i64 C.in0, .int .i64 C.in1, .slice G n c, .slice O q d] 27)
  have p1 := Blk.new w #[.int .i64 C.in0, .int .i64 C.in1, .slice G n c, .slice O q d] 27
  have h1 := h.below B1
  obtain ⟨W1, hW1⟩ : ∃ W, W = w.alloc (.cells #[.int .i64 C.in0, .int .i64 C.in1, .slice G n c, .slice O q d] 27) := ⟨_, rfl⟩
  rw [← hW1] at B1 p1 h1
  clear h hm
  obtain ⟨ok, hok⟩ : ∃ ok, gd C = ok := ⟨_, rfl⟩
  have HG := Lib.hid (isCircuit_any _ C ok W1 h1 (fitLen hf) hok)
  obtain ⟨k0, k1, k2, k3⟩ := p1.four
  cases ok with
  | false =>
    have e := HM.out
    rw [m_CircuitText, hok] at e
    obtain ⟨rfl, rfl⟩ := Prod.mk.inj e
    clear e
    go_enter Tryz.func23, Tryz.ntmps23
    go_wp2_with fail
    rw [← hW1]
    refine (HG.out).mono ?_
    rintro e w2 ⟨rfl, b2⟩
    go_wp2_with fail
    go_ret2
    exact ⟨rfl, B1.trans (b2.mono B1.size)⟩
  | true =>
    have e := HM.out
    rw [m_CircuitText, if_pos hok] at e
    obtain ⟨e1, rfl⟩ := Prod.mk.inj e
    have HR := Lib.hid e1
    have hGood := gd_yes hok
    have HN : Hid (C.gs.length = n) := hgl
    have HQ : Hid (C.os.length = q) := hO.1
    have n300 : n ≤ 300 := by have := hGood.g; omega
    have q40 : q ≤ 40 := by have := hGood.o; have := HQ.out; omega
    have HIn : Hid (∀ j, j < 2 → 0 ≤ [C.in0, C.in1].getD j 0 ∧ [C.in0, C.in1].getD j 0 ≤ 1000000) := fun j hj => by
      have := hGood.a0; have := hGood.a1; have := hGood.b0; have := hGood.b1
      match j, hj with
      | 0, _ => exact ⟨by simpa, by simp; omega⟩
      | 1, _ => exact ⟨by simpa, by simp; omega⟩
    have HGate : Hid (∀ k, k < n → gateOk (C.ins + (k : Int)) (C.gs.getD k g0) = true ∧ C.ins + (k : Int) ≤ 340) := fun k hk => ⟨hGood.gate k (by have := HN.out; omega), by
      have h3 : C.ins = C.in0 + C.in1 := rfl
      have := hGood.a1; have := hGood.b1
      omega⟩
    have HOut : Hid (∀ j, j < q → 0 ≤ C.os.getD j 0 ∧ C.os.getD j 0 ≤ 1000000) := fun j hj => by
      have h5 := hGood.out j (by have := HQ.out; omega)
      have h2 : C.wires = C.ins + (C.gs.length : Int) := rfl
      have h3 : C.ins = C.in0 + C.in1 := rfl
      have := HN.out; have := hGood.a1; have := hGood.b1
      omega
    have HTab : Hid (∀ W', Below w.heap.size w W' → Lib.TabBelow Tryz.prog W'.heap.size W' "internal/strconv.uint64pow10" .u64 Lib.pow10Tab) := fun W' hb => Lib.tabBelow_of_tabIs (hT.below hb)
    have HWords : Hid (∀ W', Below w.heap.size w W' → Words W') := fun W' hb => hW.below hb
    have hG0 := Lib.hid hGs
    have HGw : Hid (0 < w.heap.size) := World.block_lt_of_cell? w _ (hW 0 (by omega))
    have hO0 := Lib.hid hO
    have hlt0 : w.heap.size < W1.heap.size := p1.lt
    have HP : Hid (∀ W', Below W1.heap.size W1 W' → Blk W' w.heap.size #[.int .i64 C.in0, .int .i64 C.in1, .slice G n c, .slice O q d] 27) := fun W' hb => p1.below' hb
    clear e e1 hok hGood hgl HM hGs hO hW hT
    go_enter Tryz.func23, Tryz.ntmps23
    go_wp2_with fail
    rw [← hW1]
    clear hW1
    refine (HG.out).mono ?_
    rintro e w2 ⟨rfl, b2⟩
    have B2 := B1.trans (b2.mono B1.size)
    clear HG h1 k0 k1 k2 k3 p1
    obtain ⟨k0, k1, k2, k3⟩ := (HP.out w2 b2).four
    have b3 := belowNew w2 (.cells #[.int .i64 C.in0, .int .i64 C.in1] 3)
    have hl3 : Has (w2.alloc (.cells #[.int .i64 C.in0, .int .i64 C.in1] 3)) (some ⟨w2.heap.size, 0, none⟩) 2 [C.in0, C.in1] := litHas rfl rfl
    obtain ⟨w3, hw3⟩ : ∃ W, W = w2.alloc (.cells #[.int .i64 C.in0, .int .i64 C.in1] 3) := ⟨_, rfl⟩
    rw [← hw3] at b3 hl3
    have B3 := B2.trans (b3.mono B2.size)
    have bb3 := b2.trans (b3.mono b2.size)
    go_wp2_with fail
    rw [← hw3]
    clear hw3 k0 k1 k2 k3
    refine (lineOf_any _ [99, 105, 114, 99, 117, 105, 116] _ 2 2 [C.in0, C.in1] w3 rfl (by decide) hl3 (by omega) HIn.out (HTab.out w3 B3)).mono ?_
    rintro e w4 ⟨t0, rfl, HT0, ht0, b4⟩
    have B4 := B3.trans (b4.mono B3.size)
    have bb4 := bb3.trans (b4.mono bb3.size)
    have b5 := belowNew w4 (.cells #[.string t0] 9)
    have S5 := Strs.one w4 W1.heap.size t0 bb4.size
    obtain ⟨w5, hw5⟩ : ∃ W, W = w4.alloc (.cells #[.string t0] 9) := ⟨_, rfl⟩
    rw [← hw5] at b5 S5
    have B5 := B4.trans (b5.mono B4.size)
    have bb5 := bb4.trans (b5.mono bb4.size)
    obtain ⟨k0, k1, k2, k3⟩ := (HP.out w5 bb5).four
    rw [hw5] at k0 k1 k2 k3
    have HZ0 : Hid (bytesOf [t0] = bytesL (headL C ++ gatesL C 0)) := by
      show _ = _
      rw [bytesOf_one, HT0.out, bytesL_data]
      simp [headL, gatesL, numsL]
    have hl0 : (bytesOf [t0]).length ≤ 32 := by rw [bytesOf_one, data_length]; omega
    have HS5 := Lib.hid S5
    have HB5 := Lib.hid bb5
    have HB1 := Lib.hid B1
    clear HT0 ht0 hl3 b3 b4 b5 B3 B4 bb3 bb4 B2 b2 S5 B5 bb5
    go_wp2_with fail
    rw [← hw5]
    clear hw5 k0 k1 k2 k3
    go_loopw [4, 20] (fun v i wr => ∃ (k : Nat) (ts : List ByteArray), k ≤ n ∧ i = .int .i64 k ∧ Strs wr W1.heap.size v (k + 1) ts ∧ Hid (bytesOf ts = bytesL (headL C ++ gatesL C k)) ∧ (bytesOf ts).length ≤ 32 + 32 * k ∧ Below W1.heap.size W1 wr) (fun _ i _ => n - (intOf i).toNat)
    case atStart => exact ⟨0, [t0], Nat.zero_le _, rfl, HS5.out, HZ0, by omega, HB5.out⟩
    case round =>
      obtain ⟨k, ts, hk, rfl, hts, HZ, hlen, bbk⟩ := hrel
      have bk := HB1.out.trans (bbk.mono HB1.out.size)
      by_cases hlt : k < n
      · obtain ⟨ad, x, y, z, rfl, hgx, hgy, hgz, HE⟩ := (hG0.out.below bk).elem hlt
        obtain ⟨hgate, hins⟩ := HGate.out k hlt
        rw [HE.out] at hgate
        obtain ⟨xk, rfl, xk4⟩ : ∃ xk : Nat, x = (xk : Int) ∧ xk < 4 := by
          rcases gateOk_yes hgate with ⟨h | h, _⟩ | ⟨h, _⟩ | ⟨h, _⟩
          · exact ⟨0, h, by omega⟩
          · exact ⟨1, h, by omega⟩
          · exact ⟨2, h, by omega⟩
          · exact ⟨3, h, by omega⟩
        have HPt : Hid (∀ j, j < (partsOf ((xk : Int), y, z)).length → 0 ≤ (partsOf ((xk : Int), y, z)).getD j 0 ∧ (partsOf ((xk : Int), y, z)).getD j 0 ≤ 1000000) := fun j hj => by have := partsOf_in hgate j hj; omega
        have HS : Hid (gatesL C (k + 1) = gatesL C k ++ (kindL (xk : Int) ++ numsL (partsOf ((xk : Int), y, z)) ++ [10])) := by show _ = _; rw [gatesL, HE.out]; rfl
        obtain ⟨kw, hkw⟩ : ∃ kw, kindB (xk : Int) = kw := ⟨_, rfl⟩
        have HKW : Hid (kw = strOfNums (kindL (xk : Int))) := by show _ = _; rw [← hkw]; exact kindB_is _
        have b6 := belowNew wr (.cells #[.int .i64 (xk : Int), .int .i64 y, .int .i64 z] 51)
        have y6 := Blk.new wr #[.int .i64 (xk : Int), .int .i64 y, .int .i64 z] 51
        obtain ⟨w6, hw6⟩ : ∃ W, W = wr.alloc (.cells #[.int .i64 (xk : Int), .int .i64 y, .int .i64 z] 51) := ⟨_, rfl⟩
        rw [← hw6] at b6 y6
        have B6 := bk.trans (b6.mono bk.size)
        have bb6 := bbk.trans (b6.mono bbk.size)
        have hts6 := hts.below b6
        have q0 : (0 : Int) ≤ (k : Int) := by omega
        have q1 : (k : Int) < (n : Int) := by omega
        have e0 : (0 : Int) ≤ (xk : Int) := by omega
        have e1 : (xk : Int) < 4 := by omega
        have s6 := bb6.size
        have D : Below w6.heap.size w6 w6.drew := (Below.refl _ w6).drew
        have hK : Hid (∀ W', Below w6.heap.size w6 W' → (W'.cell? ⟨wr.heap.size, 0, none⟩ = some (.int .i64 (xk : Int)) ∧ W'.cell? ⟨wr.heap.size, 1, none⟩ = some (.int .i64 y) ∧ W'.cell? ⟨wr.heap.size, 2, none⟩ = some (.int .i64 z)) ∧ W'.cell? ⟨0, xk, none⟩ = some (.string kw)) := fun W' hb =>
          ⟨⟨(y6.below' hb).cell (i := 0) rfl, (y6.below' hb).cell (i := 1) rfl, (y6.below' hb).cell (i := 2) rfl⟩, by rw [← hkw]; exact HWords.out W' (B6.trans (hb.mono B6.size)) xk xk4⟩
        have hK2 : Hid (∀ W' W'', Below w6.heap.size w6 W' → W'.grownBy W'' u4.ownBlock → (W''.cell? ⟨wr.heap.size, 0, none⟩ = some (.int .i64 (xk : Int)) ∧ W''.cell? ⟨wr.heap.size, 1, none⟩ = some (.int .i64 y) ∧ W''.cell? ⟨wr.heap.size, 2, none⟩ = some (.int .i64 z)) ∧ W''.cell? ⟨0, xk, none⟩ = some (.string kw)) := fun W' W'' hb hg => by
          obtain ⟨⟨c0, c1, c2⟩, c3⟩ := hK.out W' hb
          have n1 : some wr.heap.size ≠ u4.ownBlock := fun e => absurd (hts.2.lt _ e.symm).2 (Nat.lt_irrefl _)
          have n2 : some 0 ≠ u4.ownBlock := fun e => by
            have h5 := (hts.2.lt _ e.symm).1
            have h6 := HGw.out
            have h7 := hlt0
            omega
          exact ⟨⟨hg.cell c0 n1, hg.cell c1 n1, hg.cell c2 n1⟩, hg.cell c3 n2⟩
        have HWr := Lib.hid (wiresRead_any (xk : Int) y z w6.drew)
        have HLn : Hid (∀ W' R m c', Below w6.heap.size w6 W' → Has W' R m (partsOf ((xk : Int), y, z)) → m ≤ 2 → Calls Tryz.prog 67 #[.string kw, .slice R m c'] W' fun e w' => ∃ t, e = .returned (.string t) ∧ Hid (t = strOfNums (kindL (xk : Int) ++ numsL (partsOf ((xk : Int), y, z)) ++ [10])) ∧ t.size ≤ 16 + 8 * m ∧ Below W'.heap.size W' w') := fun W' R m c' hb hh hm2 =>
          lineOf_any kw (kindL (xk : Int)) R m c' _ W' HKW.out (by rw [kindL_length]; decide) hh (by omega) (fun j hj => HPt.out j (by rw [hh.1]; exact hj)) (HTab.out W' (B6.trans (hb.mono B6.size)))
        clear hgate hins HE b6 bk hkw HKW HPt hts bbk y6
        go_upto_region 7 with fail
        rw [← hw6]
        clear hw6 hgx hgy hgz
        first
          | go_region_held3 (fun W' => (W'.cell? ⟨wr.heap.size, 0, none⟩ = some (.int .i64 (xk : Int)) ∧ W'.cell? ⟨wr.heap.size, 1, none⟩ = some (.int .i64 y) ∧ W'.cell? ⟨wr.heap.size, 2, none⟩ = some (.int .i64 z)) ∧ W'.cell? ⟨0, xk, none⟩ = some (.string kw)) (first | exact hK.out _ D | exact hK.out _ Bq | exact hK.out _ Br | exact hK.out _ (Br.trans ((belowNew w8 _).mono Br.size)) | exact hK2.out _ _ (Br.trans ((belowNew w8 _).mono Br.size)) G9 | go_keep) (first
              | (refine stepStr (w8.alloc (.cells #[.string tx] 9)) rfl (.tmp 24) (.tmp 32) rfl tx W1.heap.size _ (k + 1) ts w8.heap.size (by simp [Act.eval]) (by simp [Act.eval]) ((Blk.new w8 #[.string tx] 9).cell (i := 0) rfl) ((hts6.below Br).below (belowNew w8 (.cells #[.string tx] 9))) (by omega) (Nat.le_trans s6 (Nat.le_trans Br.size (belowNew w8 (.cells #[.string tx] 9)).size)) ?_; intro v9 w9 S9 b9 G9; have Bz := ((Br.trans ((belowNew w8 (.cells #[.string tx] 9)).mono Br.size)).mono s6).trans b9)
              | (go_at_call 67; refine (HLn.out w7 R7 m7 c7 Bq o7.has hm7).mono ?_; rintro e w8 ⟨tx, rfl, HTx, htx, b8⟩; have Br := Bq.trans (b8.mono Bq.size))
              | (go_at_call 68; refine (HWr.out).mono ?_; rintro e w7 ⟨R7, m7, c7, rfl, o7, hm7, b7⟩; have Bq := D.trans (b7.mono D.size)))
          | fail
        go_wp2_with fail
        go_roundw
        case rel =>
          refine ⟨k + 1, _, by omega, by go_num, S9, ?_, ?_, bb6.trans Bz⟩
          · show _ = _
            rw [bytesOf_add, HZ.out, HTx.out, bytesL_data, ← bytesL_append, HS.out, List.append_assoc]
          · rw [bytesOf_add, List.length_append, data_length]; omega
        case measure => simp [intOf]; omega
      · obtain rfl : k = n := by omega
        obtain ⟨k0, k1, k2, k3⟩ := (HP.out wr bbk).four
        have hO1 := hO0.out.below bk
        have hlast : ((k : Int) < (k : Int)) = False := by simp
        go_wp2_with fail
        refine (lineOf_any _ [111, 117, 116, 115] O q d C.os wr rfl (by decide) hO1 (by omega) HOut.out (HTab.out wr bk)).mono ?_
        rintro e w6 ⟨tx, rfl, HTx, htx, b6⟩
        have bb6 := bbk.trans (b6.mono bbk.size)
        have hts6 := hts.below b6
        have b7 := belowNew w6 (.cells #[.string tx] 9)
        clear k0 k1 k2 k3
        go_wp2_with (at_builtin; refine strOnto _ rfl _ _ rfl tx W1.heap.size _ (k + 1) ts w6.heap.size rfl rfl ((Blk.new w6 #[.string tx] 9).cell (i := 0) rfl) (hts6.below b7) (by omega) (Nat.le_trans bb6.size b7.size) ?_)
        intro v8 w8 S8 b8
        have bb8 := bb6.trans ((b7.mono bb6.size).trans b8)
        obtain ⟨g, cp, rfl, hg, hnc, hcells⟩ := S8.joins (by omega)
        have hl : (ts ++ [tx]).length = k + 2 := S8.1
        have HJ : Hid (Lib.join ((ts ++ [tx]).map (·.data.toList)) [] = bytesL (textL C)) := by
          show _ = _
          rw [join_empty]
          show bytesOf (ts ++ [tx]) = _
          rw [bytesOf_add, HZ.out, HTx.out, bytesL_data, ← bytesL_append, textL, HN.out]
          simp only [List.append_assoc]
        have hJl : (Lib.join ((ts ++ [tx]).map (·.data.toList)) []).length ≤ 140737488355328 := by
          rw [join_empty]
          show (bytesOf (ts ++ [tx])).length ≤ _
          rw [bytesOf_add, List.length_append, data_length]
          omega
        have hj := join_any g cp (ts ++ [tx]) w8 hcells hg (by omega) (by omega) hJl
        rw [hl, HJ.out, ← bytesL_str, HR.out] at hj
        clear S8 hcells HJ hJl hl hts6 hts
        go_wp2_with fail
        refine hj.mono ?_
        rintro e w9 ⟨rfl, b9⟩
        go_wp2_with fail
        go_ret2
        exact ⟨rfl, HB1.out.trans ((bb8.trans (b9.mono bb8.size)).mono HB1.out.size)⟩

end Go.Proofs.YtibaiajanggbdaaGreatDoor
