/- The program's test of names, whole (areNamesGiven). For lists of at most 1048576 lines. -/
import Derived.Test.YtcbofogmfelpkaaDoorLnI9
import Derived.Deep.RegionHeld3
import Derived.Deep.RegionLaw
namespace Go.Proofs.YtcbofogmfelpkaaDoor
open Go Go.RowKit Go.Maps
set_option maxRecDepth 100000

theorem names_no {ls : List Ln} {k : Nat} (hk : k < ls.length) (h : lineNames (ls.take k) (lnAt ls k) = false) : namesGiven ls = false := by
  rw [namesGiven, List.all_eq_false]
  exact ⟨k, List.mem_range.2 hk, by rw [h]; simp⟩
theorem names_yes {ls : List Ln} (h : ∀ k, k < ls.length → lineNames (ls.take k) (lnAt ls k) = true) : namesGiven ls = true := by
  rw [namesGiven, List.all_eq_true]
  exact fun k hk => h k (List.mem_range.1 hk)
theorem SetS.ext {w : World} {b k : Nat} {f f' : ByteArray → Bool} (h : SetS w b k f) (e : ∀ s, f s = f' s) : SetS w b k f' := by
  rwa [show f = f' from funext e] at h
theorem SetS.mono {w : World} {b k k' : Nat} {f : ByteArray → Bool} (h : SetS w b k f) (hk : k ≤ k') : SetS w b k' f := by
  obtain ⟨D, ⟨es, clock, hh, F, hs, hD⟩, r⟩ := h
  exact ⟨D, ⟨es, clock, hh, F, Nat.le_trans hs hk, hD⟩, r⟩

set_option maxRecDepth 100000 in
set_option maxHeartbeats 4000000 in
theorem areNamesGiven_any (A : Option Addr) (n c : Nat) (ls : List Ln) (w : World) (h : HasL w A n ls) (hn : n ≤ 1048576) (hz : ∀ j, j < n → FitL (lnAt ls j)) :
    Calls Tryd.prog 46 #[.slice A n c] w fun e w' => e = .returned (.bool (namesGiven ls)) ∧ Below w.heap.size w w' := by
  have hmm := @run_makeMap Tryd.prog
  have b1 := belowNew w (.map #[] 0)
  have m1 := SetS.new w
  obtain ⟨W1, hW1⟩ : ∃ W, W = w.alloc (.map #[] 0) := ⟨_, rfl⟩
  have s1 : W1.heap.size = w.heap.size + 1 := by rw [hW1]; simp
  rw [← hW1] at b1 m1
  have b2 := belowNew W1 (.cells #[.map (some w.heap.size)] 78)
  have y2 := Blk.newAt (k := w.heap.size + 1) W1 #[.map (some w.heap.size)] 78 s1.symm
  have m2 := m1.below b2 (by omega)
  obtain ⟨W2, hW2⟩ : ∃ W, W = W1.alloc (.cells #[.map (some w.heap.size)] 78) := ⟨_, rfl⟩
  rw [← hW2] at b2 y2 m2
  have BW2 := b1.trans (b2.mono (by omega))
  have s2 : W2.heap.size = w.heap.size + 2 := by rw [hW2]; simp; omega
  have HS := Lib.hid (m2.ext (f' := givenB (ls.take 0)) (fun s => by simp [givenB]))
  have HY := Lib.hid y2
  have HB := Lib.hid BW2
  have HH := Lib.hid h
  have HL : Hid (ls.length = n) := h.1
  have HZ := Lib.hid hz
  clear h hz b1 m1 b2 y2 m2 BW2
  go_enter Tryd.func46, Tryd.ntmps46
  go_upto_region 2 with fail
  rw [← hW1, ← hW2]
  clear hW1 hW2
  go_wp2_with fail
  go_loopw [9] (fun i wr => ∃ k : Nat, k ≤ n ∧ i = .int .i64 k ∧ SetS wr w.heap.size k (givenB (ls.take k)) ∧ Blk wr (w.heap.size + 1) #[.map (some w.heap.size)] 78 ∧ Hid (∀ j, j < k → lineNames (ls.take j) (lnAt ls j) = true) ∧ Below w.heap.size w wr ∧ w.heap.size + 2 ≤ wr.heap.size) (fun i _ => n - (intOf i).toNat)
  case atStart => exact ⟨0, Nat.zero_le _, rfl, HS.out, HY.out, fun j hj => absurd hj (by omega), HB.out, by omega⟩
  case round =>
    obtain ⟨k, hk, rfl, hset, hbox, HN, bk, sk⟩ := hrel
    by_cases hlt : k < n
    · obtain ⟨ad, kd, nm, o, ps, py, wd, vl, P, q, d, rfl, hc, hp, _, _, HT⟩ := (HH.out.below bk).line hlt
      obtain ⟨c0, c1, c2, c3, c4, c5, c6⟩ := hc.cells
      have hfit := HZ.out k hlt
      rw [HT.out] at hfit
      have hnl : nm.size ≤ maxLen := by have h2 := hfit.name; simp only at h2; unfold maxLen; omega
      have hql : q ≤ 16777216 := by have h1 := hp.1; have h2 := hfit.plen; simp only at h2; omega
      have hpl : ∀ j, j < q → (wordAt ps j).size ≤ maxLen := fun j hj => by have h2 := hfit.part j (by show j < ps.length; rw [hp.1]; exact hj); simp only at h2; unfold maxLen; omega
      have k0 : (0 : Int) ≤ (k : Int) := by omega
      have k1 : (k : Int) < (n : Int) := by omega
      have b3 := belowNew wr (.cells #[.int .i64 kd, .string nm, .string o, .slice P q d, .int .i64 py, .int .i64 wd, .int .i64 vl] 53)
      have y3 := Blk.new wr #[.int .i64 kd, .string nm, .string o, .slice P q d, .int .i64 py, .int .i64 wd, .int .i64 vl] 53
      have hset3 := hset.below b3 (by omega)
      have hbox3 := hbox.below b3 (by omega)
      have hp3 := hp.below b3
      obtain ⟨W3, hW3⟩ : ∃ W, W = wr.alloc (.cells #[.int .i64 kd, .string nm, .string o, .slice P q d, .int .i64 py, .int .i64 wd, .int .i64 vl] 53) := ⟨_, rfl⟩
      rw [← hW3] at b3 y3 hset3 hbox3 hp3
      have B3 := bk.trans (b3.mono bk.size)
      have s3 := b3.size
      have hq3 : W3.cell? ⟨w.heap.size + 1, 0, none⟩ = some (.map (some w.heap.size)) := hbox3.cell (i := 0) rfl
      obtain ⟨⟨d0, d1, d2, d3, d4, d5, d6⟩, _⟩ := y3.seven
      obtain ⟨f, hf⟩ : ∃ f, givenB (ls.take k) = f := ⟨_, rfl⟩
      rw [hf] at hset3
      obtain ⟨r, hr⟩ : ∃ r, ps.all f = r := ⟨_, rfl⟩
      have HC := Lib.hid (givenAny_any (w.heap.size + 1) w.heap.size k f P q d ps r W3 hq3 hset3 hp3 hql hpl hr)
      have HSet := Lib.hid hset3
      have HBox := Lib.hid hbox3
      have HNl := Lib.hid hnl
      have HFf := Lib.hid hf
      have HRr := Lib.hid hr
      have HLn : Hid (lineNames (ls.take k) (lnAt ls k) = !(f nm || !r)) := by show _ = _; rw [HT.out, lineNames, hf, hr]
      obtain ⟨y, hy⟩ : ∃ y, f nm = y := ⟨_, rfl⟩
      have HYn := Lib.hid hy
      clear hset hbox hc hp hfit hnl hpl hset3 hbox3 hp3 hf hr hy b3 y3
      cases y with
      | true =>
        have HF : Hid (namesGiven ls = false) := names_no (by rw [HL.out]; exact hlt) (by rw [HLn.out, HYn.out]; rfl)
        go_upto_region 5 with fail
        rw [← hW3]
        clear hW3 c0 c1 c2 c3 c4 c5 c6
        go_wp2_with (at_lookup; refine SetS.look rfl (.tmp 13) (.tmp 15) rfl rfl HSet.out nm rfl HNl.out ?_; rw [HYn.out])
        go_ret
        exact ⟨retBl HF.out.symm, B3⟩
      | false =>
        go_upto_region 5 with fail
        rw [← hW3]
        clear hW3 c0 c1 c2 c3 c4 c5 c6
        go_wp2_with (at_lookup; refine SetS.look rfl (.tmp 13) (.tmp 15) rfl rfl HSet.out nm rfl HNl.out ?_; rw [HYn.out])
        refine (HC.out).mono ?_
        rintro e w4 ⟨rfl, rfl⟩
        cases r with
        | false =>
          have HF : Hid (namesGiven ls = false) := names_no (by rw [HL.out]; exact hlt) (by rw [HLn.out]; simp)
          go_wp2_with fail
          go_ret
          exact ⟨retBl HF.out.symm, B3⟩
        | true =>
          have HN2 : Hid (∀ j, j < k + 1 → lineNames (ls.take j) (lnAt ls j) = true) := fun j hj => by
            by_cases e : j = k
            · rw [e, HLn.out, HYn.out]; rfl
            · exact HN.out j (by omega)
          by_cases h6 : kd = 6
          · subst h6
            have HS2 : Hid (SetS W3 w.heap.size (k + 1) (givenB (ls.take (k + 1)))) := (HSet.out.mono (Nat.le_succ k)).ext (fun s => by
              rw [given_next (by rw [HL.out]; exact hlt), HFf.out, HT.out]; simp [gives])
            go_wp2_with fail
            go_roundw
            case rel => exact ⟨k + 1, by omega, by go_num, HS2.out, HBox.out, HN2, B3, by omega⟩
            case measure => simp [intOf]; omega
          · go_wp2_with (at_mapUpdate; refine SetS.put rfl _ _ _ rfl rfl HSet.out (by omega) nm HNl.out rfl rfl ?_; intro w5 hm5 hg5)
            have hm6 : SetS w5 w.heap.size (k + 1) (givenB (ls.take (k + 1))) := hm5.ext (fun s => by
              rw [given_next (by rw [HL.out]; exact hlt), HFf.out, HT.out]
              by_cases e : nm = s
              · subst e; simp [gives, h6, same_refl']
              · have e2 : same nm s = false := same_no e
                simp [gives, e, e2])
            have hb5 := HBox.out.grown hg5 (by simp)
            have B5 := B3.grown hg5 B3.size (fun g hg => by have := Option.some.inj hg; omega)
            go_roundw
            case rel => exact ⟨k + 1, by omega, by go_num, hm6, hb5, HN2, B5, by have := B5.size; have := hg5.size; omega⟩
            case measure => simp [intOf]; omega
    · obtain rfl : k = n := by omega
      have HF : Hid (namesGiven ls = true) := names_yes (fun j hj => HN.out j (by have := HL.out; omega))
      go_wp2_with fail
      go_ret
      exact ⟨retBl HF.out.symm, bk⟩

end Go.Proofs.YtcbofogmfelpkaaDoor
