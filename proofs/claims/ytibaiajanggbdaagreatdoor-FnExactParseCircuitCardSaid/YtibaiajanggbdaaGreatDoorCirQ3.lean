/- The program's reading of the lines of gates. For at most 1048577 lines of at most 1048576 bytes. -/
import Derived.Test.YtibaiajanggbdaaGreatDoorCirQ1
import Derived.Test.YtibaiajanggbdaaGreatDoorCirQ2
import Derived.Laws.CopyOwn
namespace Go.Proofs.YtibaiajanggbdaaGreatDoor
open Go.RowKit Go.Maps
set_option maxRecDepth 100000

def gateR (l : ByteArray) : Ga × Bool := ((valTo (pLine l).1 4, (pLine l).2.1.getD 0 0, (pLine l).2.1.getD 1 0), (pLine l).2.2 && hasTo (pLine l).1 4)
def pGates (ls : List ByteArray) : List Ga × Bool := if ls.all (fun l => (gateR l).2) = true then (ls.map fun l => (gateR l).1, true) else ([], false)
theorem pLine_size (l : ByteArray) : (pLine l).1.size ≤ l.size := by
  have hl := piecesB_length 32 l
  refine piece_size 32 l _ ?_
  have h0 : 0 < (piecesB 32 l).length := by omega
  show wordAt (piecesB 32 l) 0 ∈ _
  simp [wordAt, List.getElem?_eq_getElem h0]
theorem all_words {ls : List ByteArray} {p : ByteArray → Bool} (h : ∀ j, j < ls.length → p (wordAt ls j) = true) : ls.all p = true := by
  rw [List.all_eq_true]
  intro x hx
  obtain ⟨j, hj, rfl⟩ := List.getElem_of_mem hx
  have := h j hj
  simpa [wordAt, List.getElem?_eq_getElem hj] using this
theorem all_not {ls : List ByteArray} {p : ByteArray → Bool} {j : Nat} (hj : j < ls.length) (h : p (wordAt ls j) = false) : ls.all p = false := by
  rw [List.all_eq_false]
  refine ⟨ls[j], List.getElem_mem hj, ?_⟩
  simp [wordAt, List.getElem?_eq_getElem hj] at h
  simp [h]
theorem two_cells (zs : List Int) : ((#[Value.int .i64 0, Value.int .i64 0] : Array Value).toList.take 0 ++ (vals (zs.take 2) ++ (#[Value.int .i64 0, Value.int .i64 0] : Array Value).toList.drop (0 + (vals (zs.take 2)).length))).toArray = #[.int .i64 (zs.getD 0 0), .int .i64 (zs.getD 1 0)] := by
  match zs with
  | [] => rfl
  | [a] => rfl
  | a :: b :: r => simp [vals]

set_option maxRecDepth 100000 in
set_option maxHeartbeats 8000000 in
theorem readGates_any (A : Option Addr) (n c : Nat) (ls : List ByteArray) (gs : List Ga) (b : Bool) (w : World) (h : HasS w A n ls) (hn : n ≤ 1048577) (hz : ∀ j, j < n → (wordAt ls j).size ≤ 1048576) (hW : Words w) (hR : Reads w) (hm : pGates ls = (gs, b)) :
    Calls Tryz.prog 104 #[.slice A n c] w fun e w' => ∃ R m c', e = .returned (.tuple #[.slice R m c', .bool b]) ∧ OwnG w' w.heap.size R m c' gs ∧ m ≤ 1048577 ∧ Below w.heap.size w w' := by
  obtain ⟨i0, hi, hz0, hz1, hz2⟩ := info_parts infoGate
  have HM := Lib.hid hm
  have HZ := Lib.hid hz
  have HK := Lib.hid (kindsByWord_any w hW)
  have HL : Hid (ls.length = n) := h.1
  have HH := Lib.hid h
  have HR := Lib.hid hR
  clear hm hz hW hR h
  go_enter Tryz.func104, Tryz.ntmps104
  go_wp2_with fail
  refine (HK.out).mono ?_
  rintro e w1 ⟨mb, rfl, hk1, hmb, b1⟩
  have s1 := b1.size
  have hmlt := hk1.lt
  clear HK
  go_wp2_with (at_make; refine wpList_make_full _ rfl _ _ 24 rfl w1.heap.size 51 i0 (.agg #[.int .i64 0, .int .i64 0, .int .i64 0]) 3 Tryz.underlying24 hi hz0 hz1 .i64 .i64 _ _ n rfl rfl rfl rfl (by rw [hz2]; omega) (by simp only [maxLen]; omega) (Nat.le_refl _) ?_; intro w2 hown hgrow)
  have hb2 := belowOf hgrow
  have HA0 : Hid (∀ j, j < 0 → (gateR (wordAt ls j)).2 = true) := fun j hj => by omega
  go_loopw [20] (fun i wr => ∃ (k : Nat) (xs : List Value), k ≤ n ∧ i = .int .i64 k ∧ wr.ownsRow w1.heap.size 51 3 (.slice (some ⟨w1.heap.size, 0, none⟩) n n) n xs ∧ Hid (∀ j, j < k * 3 → xs[j]? = (gvals (ls.map fun l => (gateR l).1))[j]?) ∧ Hid (∀ j, j < k → (gateR (wordAt ls j)).2 = true) ∧ Below w1.heap.size w1 wr) (fun i _ => n - (intOf i).toNat)
  case atStart => exact ⟨0, _, Nat.zero_le _, rfl, hown, (fun j hj => by omega), HA0, hb2⟩
  case round =>
    obtain ⟨k, xs, hk, rfl, ho, HX, HA, bk⟩ := hrel
    have Bk := b1.trans (bk.mono s1)
    by_cases hlt : k < n
    · obtain ⟨ad, rfl, c1⟩ := (HH.out.below Bk).elem hlt
      obtain ⟨l, hl⟩ : ∃ l, wordAt ls k = l := ⟨_, rfl⟩
      have hls := HZ.out k hlt
      rw [hl] at c1 hls
      obtain ⟨x, zs, bo, hpl⟩ : ∃ x zs bo, pLine l = (x, zs, bo) := ⟨_, _, _, rfl⟩
      have HRl := Lib.hid (readLine_any l x zs bo wr hls (HR.out.below Bk) hpl)
      have hxs : x.size ≤ maxLen := by have := pLine_size l; rw [hpl] at this; unfold maxLen; simp only at this; omega
      have HG : Hid (gateR (wordAt ls k) = ((valTo x 4, zs.getD 0 0, zs.getD 1 0), bo && hasTo x 4)) := by show _ = _; rw [hl, gateR, hpl]
      have p0 : (0 : Int) ≤ (k : Int) := by omega
      have p1 : (k : Int) < (n : Int) := by omega
      clear hl hpl hls
      go_wp2_with fail
      refine (HRl.out).mono ?_
      rintro e w3 ⟨R, m, cR, rfl, oz, hm3, b3⟩
      have B3 := bk.trans (b3.mono bk.size)
      have hmk := hk1.below B3 hmlt
      obtain ⟨vk, hvk⟩ : ∃ v, valTo x 4 = v := ⟨_, rfl⟩
      obtain ⟨kn, hkn⟩ : ∃ v, hasTo x 4 = v := ⟨_, rfl⟩
      rw [hvk, hkn] at HG
      have HLook : Hid (∀ {ops : Array Oper} {rest : List Oper} {o : Oper} {a : Act} {Q : Exit → Act → World → Prop} (hg : o.guard = none) (m x' : Operand) (hop : o.op = Op.lookup 133 m x' true) (hm : a.eval m = .map (some mb)) (hx : a.eval x' = .string x), wpList Tryz.prog ops Q rest (a.put o.dst (.tuple #[.int .i64 vk, .bool kn])) w3 → wpList Tryz.prog ops Q (o :: rest) a w3) := fun hg m x' hop hm hx hK => KindMap.look hg m x' hop hm hmk x hx hxs (by rw [hvk, hkn]; exact hK)
      have ho3 : w3.ownsRow w1.heap.size 51 3 (.slice (some ⟨w1.heap.size, 0, none⟩) n n) n xs := ho.kept (grownOf b3 none) (.inr (by simp [Value.ownBlock]))
      clear HRl hvk hkn hmk hxs
      go_upto_region 8 with (at_lookup; refine HLook.out rfl _ _ rfl rfl rfl ?_)
      obtain ⟨bk2, hbk2⟩ : ∃ q, (bo && kn) = q := ⟨_, rfl⟩
      go_cut [42] (fun vq wx => vq = .bool (!bk2) ∧ wx = w3)
      case first =>
        cases bo with
        | false =>
          go_wp2_with fail
          go_meet
          exact ⟨by rw [← hbk2]; simp, rfl⟩
        | true =>
          go_wp2_with fail
          go_meet
          exact ⟨by rw [← hbk2]; simp, rfl⟩
      case rest =>
      obtain ⟨rfl, hwx⟩ := hcut
      obtain ⟨w4, rfl⟩ : ∃ x, x = wc := ⟨_, rfl⟩
      subst hwx
      rw [hbk2] at HG
      cases bk2 with
      | false =>
        have e := HM.out
        rw [pGates, all_not (j := k) (by rw [HL.out]; exact hlt) (by rw [HG.out])] at e
        simp only [Bool.false_eq_true, if_false] at e
        obtain ⟨rfl, rfl⟩ := Prod.mk.inj e
        have B4 := b1.trans (B3.mono s1)
        clear e
        go_wp2_with fail
        go_ret2
        exact ⟨none, 0, 0, rfl, ⟨rfl, World.ownsRow_nil _ _ _ _⟩, by omega, B4⟩
      | true =>
        have HGk : Hid ((ls.map fun l => (gateR l).1).getD k g0 = (vk, zs.getD 0 0, zs.getD 1 0)) := by
          show _ = _
          have hkl : k < ls.length := by rw [HL.out]; exact hlt
          have := HG.out
          rw [wordAt, List.getD_eq_getElem?_getD, List.getElem?_eq_getElem hkl, Option.getD_some] at this
          rw [List.getD_eq_getElem?_getD, List.getElem?_map, List.getElem?_eq_getElem hkl]
          simp [this]
        have HA2 : Hid (∀ j, j < k + 1 → (gateR (wordAt ls j)).2 = true) := fun j hj => by
          by_cases h : j < k
          · exact HA.out j h
          · obtain rfl : j = k := by omega
            rw [HG.out]
        obtain ⟨y0, hy0⟩ : ∃ y, zs.getD 0 0 = y := ⟨_, rfl⟩
        obtain ⟨y1, hy1⟩ : ∃ y, zs.getD 1 0 = y := ⟨_, rfl⟩
        rw [hy0, hy1] at HGk
        have HTwo := two_cells zs
        rw [hy0, hy1] at HTwo
        have hzl : zs.length = m := oz.1
        go_upto_region 11 with fail
        have b5 := belowNew w4 (.cells #[.int .i64 0, .int .i64 0] 135)
        have y5 := Blk.new w4 #[.int .i64 0, .int .i64 0] 135
        obtain ⟨w5, hw5⟩ : ∃ W, W = w4.alloc (.cells #[.int .i64 0, .int .i64 0] 135) := ⟨_, rfl⟩
        rw [← hw5] at b5 y5
        rw [← hw5]
        clear hw5
        have oz5 := oz.below b5
        have hsi : (Tryz.prog.info? 3).map (·.size) = some 1 := by kernel_rfl
        go_cut [] (fun wx => Blk wx w4.heap.size #[.int .i64 y0, .int .i64 y1] 135 ∧ Below w4.heap.size w4 wx)
        case first =>
          by_cases hm0 : m = 0
          · subst hm0
            have hzn : zs = [] := List.length_eq_zero_iff.1 hzl
            have e0 : y0 = 0 := by rw [← hy0, hzn]; rfl
            have e1 : y1 = 0 := by rw [← hy1, hzn]; rfl
            subst e0 e1
            have HY := Lib.hid y5
            have HB := Lib.hid b5
            clear hy0 hy1 hzn hzl HTwo y5 b5
            go_wp2_with (refine wpList_copy_nothing rfl (.tmp 43) (.tmp 44) 25 25 rfl 3 Tryz.underlying25 hsi (some ⟨w4.heap.size, 0, none⟩) R 2 2 0 cR rfl rfl (by decide) ?_)
            go_meet
            exact ⟨HY.out, HB.out⟩
          · obtain ⟨ad2, z0, rfl, _, _⟩ := oz5.has.elem (k := 0) (by omega)
            have hsrc : ∀ j v, (vals (zs.take 2))[j]? = some v → w5.cell? (ad2.add j) = some v := fun j v hj => by
              have hjl : j < (vals (zs.take 2)).length := (List.getElem?_eq_some_iff.1 hj).1
              rw [vals_length, List.length_take] at hjl
              obtain ⟨ad3, z, e, hc, hz⟩ := oz5.has.elem (k := j) (by omega)
              cases e
              rw [hc, ← hj, vals_at _ j (by rw [List.length_take]; omega), hz.out]
              simp [List.getD_eq_getElem?_getD, show j < 2 by omega]
            have hcn : (vals (zs.take 2)).length = Nat.min m 2 := by rw [vals_length, List.length_take, hzl]; exact Nat.min_comm _ _
            have h2 : (vals (zs.take 2)).length ≤ 2 := by rw [hcn]; exact Nat.min_le_right _ _
            have hone : ∀ v ∈ vals (zs.take 2), v.oneCell' = true := fun v hv => by
              simp only [vals, List.mem_map] at hv
              obtain ⟨z, _, rfl⟩ := hv
              rfl
            have HTwo2 : Hid ((vals (zs.take 2) ++ List.drop (Nat.min m 2) [Value.int .i64 0, Value.int .i64 0]).toArray = #[.int .i64 y0, .int .i64 y1]) := by
              show _ = _
              rw [← hcn, ← HTwo]
              simp
            have HY : Hid (Blk (w5.setRow w4.heap.size #[.int .i64 y0, .int .i64 y1]) w4.heap.size #[.int .i64 y0, .int .i64 y1] 135) := setRow_heap w5 w4.heap.size _ #[.int .i64 y0, .int .i64 y1] 135 (0, 0) y5
            have HB := Lib.hid (below_setRow b5 (Nat.le_refl _) #[.int .i64 y0, .int .i64 y1])
            go_wp2_with (refine wpList_copy_own rfl (.tmp 43) (.tmp 44) 25 25 rfl 3 Tryz.underlying25 hsi w4.heap.size 0 2 2 ad2 m cR rfl rfl #[.int .i64 0, .int .i64 0] 135 y5 (vals (zs.take 2)) hcn hsrc (by show 0 + _ ≤ 2; omega) hone ?_)
            go_meet
            exact ⟨by rw [HTwo2.out]; exact HY.out, by rw [HTwo2.out]; exact HB.out⟩
        case rest =>
        obtain ⟨y6, b6⟩ := hcut
        obtain ⟨w6, rfl⟩ : ∃ x, x = wc := ⟨_, rfl⟩
        have ho6 : w6.ownsRow w1.heap.size 51 3 (.slice (some ⟨w1.heap.size, 0, none⟩) n n) n xs := ho3.kept (grownOf b6 none) (.inr (by simp [Value.ownBlock]))
        have B6 := B3.trans (b6.mono B3.size)
        have d0 := y6.cell (i := 0) rfl
        have d1 := y6.cell (i := 1) rfl
        obtain ⟨⟨u0, c0⟩, ⟨u1, c1⟩, ⟨u2, c2⟩⟩ := gcells ho6 hlt
        have f0 := ho6.frozenAt (k * 3)
        have f1 := ho6.frozenAt (k * 3 + 1)
        have f2 := ho6.frozenAt (k * 3 + 2)
        have hml : (ls.map fun l => (gateR l).1).length = n := by rw [List.length_map, HL.out]
        have HMl := Lib.hid hml
        clear hml y6 b6 ho3 oz b5 y5 oz5 hsi hzl HTwo
        go_wp2_with fail
        obtain ⟨xs', ho4, hx4⟩ := gput ho6 hlt HMl.out HX.out HGk.out
        go_roundw
        case rel => exact ⟨k + 1, xs', by omega, by go_num, ho4, hx4, HA2, ((B6.setCell (Nat.le_refl _) _).setCell (Nat.le_refl _) _).setCell (Nat.le_refl _) _⟩
        case measure => simp [intOf]; omega
    · obtain rfl : k = n := by omega
      have e := HM.out
      rw [pGates, all_words (fun j hj => HA.out j (by rw [HL.out] at hj; exact hj)), if_pos rfl] at e
      obtain ⟨rfl, rfl⟩ := Prod.mk.inj e
      have hml : (ls.map fun l => (gateR l).1).length = k := by rw [List.length_map, HL.out]
      have hvl : (gvals (ls.map fun l => (gateR l).1)).length = k * 3 := by rw [gvals_length, hml]
      have hxl : xs.length = k * 3 := ho.1
      have ex : xs = gvals (ls.map fun l => (gateR l).1) := by
        apply List.ext_getElem?
        intro j
        by_cases hj : j < k * 3
        · exact HX.out j hj
        · rw [List.getElem?_eq_none (by omega), List.getElem?_eq_none (by omega)]
      rw [ex] at ho
      have HO : Hid (OwnG wr w.heap.size (some ⟨w1.heap.size, 0, none⟩) k k (ls.map fun l => (gateR l).1)) := OwnG.mono ⟨hml, ho⟩ s1
      clear e ex hvl hxl ho HX
      go_wp2_with fail
      go_ret2
      exact ⟨_, _, _, rfl, HO.out, hn, Bk⟩

end Go.Proofs.YtibaiajanggbdaaGreatDoor
