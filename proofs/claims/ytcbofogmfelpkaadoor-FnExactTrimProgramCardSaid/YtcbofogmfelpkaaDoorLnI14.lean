/- The program's widths of all lines (byLine, widthsByLine). For lists of at most 1048576 lines that are lines by themselves and whose names are given before. -/
import Derived.Test.YtcbofogmfelpkaaDoorLnM2
import Derived.Deep.RegionHeld3
import Derived.Deep.RegionLaw
import Derived.Deep.DeepCutAuto
namespace Go.Proofs.YtcbofogmfelpkaaDoor
open Go Go.RowKit Go.Maps
set_option maxRecDepth 100000

theorem NumS.other {w : World} {b k g : Nat} {f : ByteArray → Int} (h : NumS w b k f) (hne : g ≠ b) (i : Nat) (v : Value) : NumS (w.setCell ⟨g, i, none⟩ v) b k f := by
  obtain ⟨D, ⟨es, clock, hh, r1⟩, r⟩ := h
  exact ⟨D, ⟨es, clock, (Below.heap_setCell w ⟨g, i, none⟩ v b (fun e => hne e.symm)).trans hh, r1⟩, r⟩

set_option maxRecDepth 100000 in
set_option maxHeartbeats 4000000 in
theorem byLineW_any (q0 : Nat) (A : Option Addr) (n c : Nat) (ls : List Ln) (w : World) (hq0 : w.cell? ⟨q0, 0, none⟩ = some (.slice A n c)) (h : HasL w A n ls) (hn : n ≤ 1048576) (hz : ∀ j, j < n → FitL (lnAt ls j)) (hl : ls.all lineOk = true) (hnm : namesGiven ls = true) (hW : OpWords w) :
    Calls Tryd.prog 82 #[.slice A n c, .func (.func 83) #[] #[.pointer (some ⟨q0, 0, none⟩)]] w
      fun e w' => e = .returned (.slice (some ⟨w.heap.size, 0, none⟩) n n) ∧ Own w' w.heap.size (some ⟨w.heap.size, 0, none⟩) n n (progW ls) ∧ Below w.heap.size w w' := by
  have hmm := @run_makeMap Tryd.prog
  have HH := Lib.hid h
  have HL : Hid (ls.length = n) := h.1
  have HZ := Lib.hid hz
  have HQ := Lib.hid hq0
  have HLo := Lib.hid hl
  have HNm := Lib.hid hnm
  have HWo := Lib.hid hW
  have lq0 : q0 < w.heap.size := World.block_lt_of_cell? w _ hq0
  clear h hz hq0 hl hnm hW
  go_enter Tryd.func82, Tryd.ntmps82
  go_upto_region 3 with (at_make; refine makeInts _ rfl _ rfl n rfl (by omega) ?_; intro w1 hf hb1)
  have t1 : w.heap.size < w1.heap.size := by
    obtain ⟨xs, ho, _⟩ := hf (vals (progW ls))
    exact (ho.lt w.heap.size rfl).2
  have hf0 := hf (vals (progW ls))
  have b2 := belowNew w1 (.cells #[.slice (some ⟨w.heap.size, 0, none⟩) n n] 32)
  have y2 := Blk.new w1 #[.slice (some ⟨w.heap.size, 0, none⟩) n n] 32
  have f2 := hf0.below b2
  obtain ⟨W2, hW2⟩ : ∃ W, W = w1.alloc (.cells #[.slice (some ⟨w.heap.size, 0, none⟩) n n] 32) := ⟨_, rfl⟩
  have s2 : W2.heap.size = w1.heap.size + 1 := by rw [hW2]; simp
  rw [← hW2] at b2 y2 f2
  have b3 := belowNew W2 (.map #[] 0)
  have m3 := NumS.new W2
  rw [s2] at m3
  have y3 := y2.below b3 (by omega)
  have f3 := f2.below b3
  obtain ⟨W3, hW3⟩ : ∃ W, W = W2.alloc (.map #[] 0) := ⟨_, rfl⟩
  have s3 : W3.heap.size = w1.heap.size + 1 + 1 := by rw [hW3]; simp; omega
  rw [← hW3] at b3 m3 y3 f3
  have b4 := belowNew W3 (.cells #[.map (some (w1.heap.size + 1))] 103)
  have z4 := Blk.newAt (k := w1.heap.size + 1 + 1) W3 #[.map (some (w1.heap.size + 1))] 103 s3.symm
  have m4 := m3.below b4 (by omega)
  have y4 := y3.below b4 (by omega)
  have f4 := f3.below b4
  obtain ⟨W4, hW4⟩ : ∃ W, W = W3.alloc (.cells #[.map (some (w1.heap.size + 1))] 103) := ⟨_, rfl⟩
  have s4 : W4.heap.size = w1.heap.size + 1 + 1 + 1 := by rw [hW4]; simp; omega
  rw [← hW4] at b4 z4 m4 y4 f4
  have B4 : Below w.heap.size w W4 := ((hb1.trans (b2.mono (by omega))).trans (b3.mono (by omega))).trans (b4.mono (by omega))
  have HF4 := Lib.hid f4
  have HM4 := Lib.hid m4
  have HY4 := Lib.hid y4
  have HZ4 := Lib.hid z4
  have HB4 := Lib.hid B4
  have HP0 : Hid (PlacesOk ls 0 (fun _ => 0)) := fun s hs => by simp [givenB] at hs
  rw [← hW2, ← hW3, ← hW4]
  clear hW2 hW3 hW4 hf hf0 hb1 b2 y2 f2 b3 m3 y3 f3 b4 z4 m4 y4 f4 B4
  go_wp2_with fail
  go_loopw [15] (fun i wr => ∃ (k : Nat) (f : ByteArray → Int), k ≤ n ∧ i = .int .i64 k ∧ Filled wr w.heap.size 3 w.heap.size n (vals (progW ls)) (fun q => q < k) ∧ Blk wr w1.heap.size #[.slice (some ⟨w.heap.size, 0, none⟩) n n] 32 ∧ NumS wr (w1.heap.size + 1) k f ∧ Blk wr (w1.heap.size + 1 + 1) #[.map (some (w1.heap.size + 1))] 103 ∧ Hid (PlacesOk ls k f) ∧ Below w.heap.size w wr ∧ w1.heap.size + 3 ≤ wr.heap.size) (fun i _ => n - (intOf i).toNat)
  case atStart => exact ⟨0, fun _ => 0, Nat.zero_le _, rfl, HF4.out, HY4.out, HM4.out, HZ4.out, HP0, HB4.out, by omega⟩
  case round =>
    obtain ⟨k, f, hk, rfl, hfk, hyk, hmk, hzk, HPk, bk, sk⟩ := hrel
    by_cases hlt : k < n
    · obtain ⟨ad, kd, nm, o, ps, py, wd, vl, P, q, d, hA, hc, hp, hqd, _, HT⟩ := (HH.out.below bk).line hlt
      subst hA
      obtain ⟨c0, c1, c2, c3, c4, c5, c6⟩ := hc.cells
      have hkl : k < ls.length := by rw [HL.out]; exact hlt
      have hfit := HZ.out k hlt
      rw [HT.out] at hfit
      have hnl : nm.size ≤ maxLen := by have h2 := hfit.name; simp only at h2; unfold maxLen; omega
      have hql : q ≤ 16777216 := by have h1 := hp.1; have h2 := hfit.plen; simp only at h2; omega
      have hpl : ∀ j, j < q → (wordAt ps j).size ≤ maxLen := fun j hj => by have h2 := hfit.part j (by show j < ps.length; rw [hp.1]; exact hj); simp only at h2; unfold maxLen; omega
      have hok : lineOk (lnAt ls k) = true := by
        have h1 := HLo.out
        rw [List.all_eq_true] at h1
        have e : lnAt ls k = ls[k] := by simp [lnAt, List.getD_eq_getElem?_getD, List.getElem?_eq_getElem hkl]
        rw [e]
        exact h1 _ (List.getElem_mem _)
      have hnames := names_at HNm.out hkl
      have k0 : (0 : Int) ≤ (k : Int) := by omega
      have k1 : (k : Int) < (n : Int) := by omega
      have b5 := belowNew wr (.cells #[.int .i64 kd, .string nm, .string o, .slice P q d, .int .i64 py, .int .i64 wd, .int .i64 vl] 53)
      have x5 := Blk.new wr #[.int .i64 kd, .string nm, .string o, .slice P q d, .int .i64 py, .int .i64 wd, .int .i64 vl] 53
      have f5 := hfk.below b5
      have y5 := hyk.below b5 (by omega)
      have m5 := hmk.below b5 (by omega)
      have z5 := hzk.below b5 (by omega)
      have p5 := hp.below b5
      obtain ⟨W5, hW5⟩ : ∃ W, W = wr.alloc (.cells #[.int .i64 kd, .string nm, .string o, .slice P q d, .int .i64 py, .int .i64 wd, .int .i64 vl] 53) := ⟨_, rfl⟩
      rw [← hW5] at b5 x5 f5 y5 m5 z5 p5
      have s5 := b5.size
      have t5 : wr.heap.size < W5.heap.size := x5.lt
      have B5 := bk.trans (b5.mono bk.size)
      have hkind : kd ≠ 0 := fun e => by
        rw [HT.out, lineOk, Bool.and_eq_true] at hok
        have h2 := hok.2
        simp only at h2
        rw [e, kindOk, if_neg (by omega), if_neg (by omega), if_neg (by omega), if_neg (by omega), if_neg (by omega)] at h2
        cases h2
      obtain ⟨val, hval⟩ : ∃ val : Nat → Int, val = fun j => (progTo ls k).getD (findL (ls.take k) (wordAt ps j)).toNat 0 := ⟨_, rfl⟩
      have hparts : ∀ j, j < q → givenB (ls.take k) (wordAt ps j) = true := fun j hj => by
        have h1 := hnames.2
        rw [HT.out, List.all_eq_true] at h1
        have hj' : j < ps.length := by rw [hp.1]; exact hj
        have e : wordAt ps j = ps[j] := by simp [wordAt, List.getD_eq_getElem?_getD, List.getElem?_eq_getElem hj']
        rw [e]
        exact h1 _ (List.getElem_mem _)
      have hv : ∀ j, j < q → ∃ i : Nat, f (wordAt ps j) = (i : Int) ∧ i < n ∧ W5.cell? ⟨w.heap.size, i, none⟩ = some (.int .i64 (val j)) := fun j hj => by
        have hg := hparts j hj
        have h1 := findL_place hg
        rw [List.length_take] at h1
        have h2 := HPk.out _ hg
        refine ⟨(findL (ls.take k) (wordAt ps j)).toNat, by rw [h2]; omega, by omega, ?_⟩
        obtain ⟨xs, ho, hx⟩ := f5
        have hl : xs.length = n := by simpa using ho.1
        rw [ho.cellAt _ (by omega), hx _ (by omega) (by omega), hval]
        have e : (progTo ls k).getD (findL (ls.take k) (wordAt ps j)).toNat 0 = (progW ls).getD (findL (ls.take k) (wordAt ps j)).toNat 0 := progTo_all (by omega) (by omega)
        simp only [e]
        have hpl : (progW ls).length = n := by rw [progW, progTo_length, HL.out]
        simp [vals, List.getD_eq_getElem?_getD, List.getElem?_eq_getElem (show (findL (ls.take k) (wordAt ps j)).toNat < (progW ls).length by omega)]
      have HCh := Lib.hid (fun W (hb : Below W5.heap.size W5 W) => changedParts_any w1.heap.size (w1.heap.size + 1 + 1) (w1.heap.size + 1) k w.heap.size n n f P q d ps val W ((y5.below' hb).cell (i := 0) rfl) ((z5.below' hb).cell (i := 0) rfl) (m5.below hb (by omega)) (p5.below hb) hql hpl
        (fun j hj => by obtain ⟨i, h1, h2, h3⟩ := hv j hj; exact ⟨i, h1, h2, cellKept hb (by omega) h3⟩))
      obtain ⟨z, hz⟩ : ∃ z, (progW ls).getD k 0 = z := ⟨_, rfl⟩
      have hzp : pWidth (lnAt ls k).kind (lnAt ls k).width (lnAt ls k).op (mapTo val q) = z := by
        rw [← hz, progTo_new ls hkl, partWs_mapTo, hval, HT.out, hp.1]
      have hvr : ∀ j, 0 ≤ (mapTo val q).getD j 0 ∧ (mapTo val q).getD j 0 ≤ 10 := fun j => getD_map_range (by omega) (fun i _ => by rw [hval]; exact progTo_range HLo.out k (by omega) _) j
      have HCl := Lib.hid (fun W (hb : Below W5.heap.size W5 W) (g : Nat) (hu : Has W (some ⟨g, 0, none⟩) q (mapTo val q)) => widths1_any q0 (some ad) n c ls k g q q (mapTo val q) W (cellKept (B5.trans (hb.mono B5.size)) lq0 HQ.out) (HH.out.below (B5.trans (hb.mono B5.size))) hlt hok (by rw [HT.out]; exact hkind) (by rw [HT.out]; exact hp.1.symm) (Nat.le_refl _) hu hvr (HWo.out.below (B5.trans (hb.mono B5.size))))
      rw [hzp] at HCl
      have HFil := Lib.hid f5
      have HKS : Hid (∀ W', Below W5.heap.size W5 W' → W'.cell? ⟨w1.heap.size, 0, none⟩ = some (.slice (some ⟨w.heap.size, 0, none⟩) n n) ∧ W'.cell? ⟨wr.heap.size, 3, none⟩ = some (.slice P q d)) := fun W' hb => ⟨(y5.below' hb).cell (i := 0) rfl, (x5.below' hb).cell (i := 3) rfl⟩
      have HKS2 : Hid (∀ W' v, Below W5.heap.size W5 W' → (W'.setCell ⟨w.heap.size, k, none⟩ v).cell? ⟨w1.heap.size, 0, none⟩ = some (.slice (some ⟨w.heap.size, 0, none⟩) n n) ∧ (W'.setCell ⟨w.heap.size, k, none⟩ v).cell? ⟨wr.heap.size, 3, none⟩ = some (.slice P q d)) := fun W' v hb =>
        ⟨((y5.below' hb).other (by omega) k v).cell (i := 0) rfl, ((x5.below' hb).other (by omega) k v).cell (i := 3) rfl⟩
      have D : Below W5.heap.size W5 W5.drew := (Below.refl _ W5).drew
      have HYb := Lib.hid y5
      have HMb := Lib.hid m5
      have HZb := Lib.hid z5
      have HXb := Lib.hid x5
      have HVz : Hid ((vals (progW ls))[k]? = some (.int .i64 z)) := by
        show _ = _
        have hpl : k < (progW ls).length := by rw [progW, progTo_length]; exact hkl
        rw [← hz]
        simp [vals, List.getD_eq_getElem?_getD, List.getElem?_eq_getElem hpl]
      have HP2 : Hid (PlacesOk ls (k + 1) (fun t => if nm = t then (k : Int) else f t)) := by
        have h1 := places_next HNm.out hkl HPk.out
        rw [HT.out] at h1
        exact h1
      have HNl := Lib.hid hnl
      obtain ⟨e0, e3⟩ := HKS.out W5 (Below.refl _ _)
      clear hfk hyk hmk hzk hc hp hfit hnl hpl hok hnames b5 x5 f5 y5 m5 z5 p5 hparts hv hz hzp hvr hval hkind
      go_upto_region 6 with fail
      rw [← hW5]
      clear hW5 c0 c1 c2 c3 c4 c5 c6
      go_cut [] (fun wx => Filled wx w.heap.size 3 w.heap.size n (vals (progW ls)) (fun q => q < k + 1) ∧ Blk wx w1.heap.size #[.slice (some ⟨w.heap.size, 0, none⟩) n n] 32 ∧ NumS wx (w1.heap.size + 1) k f ∧ Blk wx (w1.heap.size + 1 + 1) #[.map (some (w1.heap.size + 1))] 103 ∧ Blk wx wr.heap.size #[.int .i64 kd, .string nm, .string o, .slice P q d, .int .i64 py, .int .i64 wd, .int .i64 vl] 53 ∧ Below w.heap.size w wx ∧ w1.heap.size + 3 ≤ wx.heap.size)
      case first =>
        first
          | (go_region_held3 (fun W' => W'.cell? ⟨w1.heap.size, 0, none⟩ = some (.slice (some ⟨w.heap.size, 0, none⟩) n n) ∧ W'.cell? ⟨wr.heap.size, 3, none⟩ = some (.slice P q d)) (first | exact HKS.out _ D | exact HKS.out _ Bz | exact HKS.out _ Bq | exact HKS2.out _ _ Bz | go_keep) (first
              | (go_at_call 83; refine (HCl.out _ Bq _ o4.has).mono ?_; rintro e w6 ⟨rfl, b6⟩; have Bz := Bq.trans (b6.mono Bq.size); obtain ⟨u, hu⟩ := (HFil.out.below Bz).cell hlt; have hfr := (HFil.out.below Bz).free k)
              | (go_at_call 103; refine (HCh.out _ D).mono ?_; rintro e w4 ⟨rfl, o4, b4⟩; have Bq := D.trans (b4.mono D.size))))
          | fail
        all_goals
          go_wp2_with fail
          go_meet
          exact ⟨(HFil.out.below Bz).put hlt HVz.out (by intro q' _ h; omega), (HYb.out.below' Bz).other (by omega) k _, (HMb.out.below Bz (by omega)).other (by omega) k _, (HZb.out.below' Bz).other (by omega) k _, (HXb.out.below' Bz).other (by omega) k _, (B5.trans (Bz.mono B5.size)).setCell (Nat.le_refl _) _, by have := Bz.size; simp; omega⟩
      case rest =>
      obtain ⟨hf6, hy6, hm6, hz6, hx6, B6, s6⟩ := hcut
      obtain ⟨w6, rfl⟩ : ∃ x, x = wc := ⟨_, rfl⟩
      have HM6 := Lib.hid hm6
      have HF6 := Lib.hid hf6
      have HY6 := Lib.hid hy6
      have HZ6 := Lib.hid hz6
      obtain ⟨⟨d0, d1, d2, d3, d4, d5, d6⟩, _⟩ := hx6.seven
      have e6 : w6.cell? ⟨w1.heap.size + 1 + 1, 0, none⟩ = some (.map (some (w1.heap.size + 1))) := hz6.cell (i := 0) rfl
      clear hf6 hy6 hm6 hz6 hx6 e0 e3
      go_wp2_with (at_mapUpdate; refine NumS.put rfl _ _ _ rfl rfl HM6.out (by omega) nm HNl.out rfl k (by omega) rfl ?_; intro w7 hm7 hg7)
      go_roundw
      case rel => exact ⟨k + 1, _, by omega, by go_num, HF6.out.kept hg7 (by simp; omega), HY6.out.grown hg7 (by simp), hm7, HZ6.out.grown hg7 (by simp), HP2, B6.grown hg7 B6.size (fun g hg => by have := Option.some.inj hg; omega), by have := hg7.size; omega⟩
      case measure => simp [intOf]; omega
    · obtain rfl : k = n := by omega
      have e0 : wr.cell? ⟨w1.heap.size, 0, none⟩ = some (.slice (some ⟨w.heap.size, 0, none⟩) k k) := hyk.cell (i := 0) rfl
      have HO : Hid (Own wr w.heap.size (some ⟨w.heap.size, 0, none⟩) k k (progW ls)) := ⟨by rw [progW, progTo_length, HL.out], hfk.full (by rw [vals_length, progW, progTo_length, HL.out]) (by intro q' hq'; exact hq')⟩
      clear hfk hyk hmk hzk
      go_wp2_with fail
      go_ret
      exact ⟨rfl, HO.out, bk⟩

set_option maxHeartbeats 1000000 in
theorem widthsByLine_any (A : Option Addr) (n c : Nat) (ls : List Ln) (w : World) (h : HasL w A n ls) (hn : n ≤ 1048576) (hz : ∀ j, j < n → FitL (lnAt ls j)) (hl : ls.all lineOk = true) (hnm : namesGiven ls = true) (hW : OpWords w) :
    Calls Tryd.prog 47 #[.slice A n c] w fun e w' => ∃ g, e = .returned (.slice (some ⟨g, 0, none⟩) n n) ∧ Own w' w.heap.size (some ⟨g, 0, none⟩) n n (progW ls) ∧ Below w.heap.size w w' := by
  have b1 := belowNew w (.cells #[.slice A n c] 25)
  have y1 := Blk.new w #[.slice A n c] 25
  have h1 := h.below b1
  have hW1 := hW.below b1
  obtain ⟨W1, hW1e⟩ : ∃ W, W = w.alloc (.cells #[.slice A n c] 25) := ⟨_, rfl⟩
  rw [← hW1e] at b1 y1 h1 hW1
  have e1 : W1.cell? ⟨w.heap.size, 0, none⟩ = some (.slice A n c) := y1.cell (i := 0) rfl
  have HC := Lib.hid (byLineW_any w.heap.size A n c ls W1 e1 h1 hn hz hl hnm hW1)
  have HB := Lib.hid b1
  clear h hz hl hnm hW h1 hW1 y1 b1
  go_enter Tryd.func47, Tryd.ntmps47
  go_upto_region 1 with fail
  rw [← hW1e]
  clear hW1e
  go_wp2_with fail
  refine (HC.out).mono ?_
  rintro e w2 ⟨rfl, o2, b2⟩
  have HO : Hid (Own w2 w.heap.size (some ⟨W1.heap.size, 0, none⟩) n n (progW ls)) := o2.mono HB.out.size
  have HB2 := Lib.hid (HB.out.trans (b2.mono HB.out.size))
  clear o2 b2
  go_wp2_with fail
  go_ret
  exact ⟨_, rfl, HO.out, HB2.out⟩

end Go.Proofs.YtcbofogmfelpkaaDoor
