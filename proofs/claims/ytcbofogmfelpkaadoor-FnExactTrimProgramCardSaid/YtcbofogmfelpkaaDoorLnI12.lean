/- What the lines before give for the parts of a line, of numbers (byLine's closure and changed). For at most 16777216 parts. -/
import Derived.Test.YtcbofogmfelpkaaDoorLnI11
import Derived.Test.YtcbofogmfelpkaaDoorLnI10
import Derived.Test.YtcbofogmfelpkaaDoorLists
namespace Go.Proofs.YtcbofogmfelpkaaDoor
open Go Go.RowKit Go.Maps
set_option maxRecDepth 100000

set_option maxHeartbeats 1000000 in
theorem byLine1_any (q1 q2 b kk g n c : Nat) (f : ByteArray → Int) (i : Nat) (s : ByteArray) (j : Nat) (z : Int) (w : World) (h1 : w.cell? ⟨q1, 0, none⟩ = some (.slice (some ⟨g, 0, none⟩) n c)) (h2 : w.cell? ⟨q2, 0, none⟩ = some (.map (some b)))
    (h : NumS w b kk f) (hs : s.size ≤ maxLen) (hj : f s = (j : Int)) (hjn : j < n) (hz : w.cell? ⟨g, j, none⟩ = some (.int .i64 z)) :
    Calls Tryd.prog 104 #[.int .i64 (i : Int), .string s, .pointer (some ⟨q1, 0, none⟩), .pointer (some ⟨q2, 0, none⟩)] w fun e w' => e = .returned (.int .i64 z) ∧ w = w' := by
  have HM := Lib.hid h
  have HZ := Lib.hid hs
  have HJ := Lib.hid hj
  have k0 : (0 : Int) ≤ (j : Int) := by omega
  have k1 : (j : Int) < (n : Int) := by omega
  clear h hs hj
  go_enter Tryd.func104, Tryd.ntmps104
  go_wp2_with (at_lookup; refine NumS.look rfl (.tmp 8) (.tmp 9) rfl rfl HM.out s rfl HZ.out ?_; rw [HJ.out])
  go_ret
  exact ⟨rfl, rfl⟩

set_option maxHeartbeats 2000000 in
theorem changedParts_any (q1 q2 b kk g n c : Nat) (f : ByteArray → Int) (P : Option Addr) (m d : Nat) (ps : List ByteArray) (val : Nat → Int) (w : World) (h1 : w.cell? ⟨q1, 0, none⟩ = some (.slice (some ⟨g, 0, none⟩) n c)) (h2 : w.cell? ⟨q2, 0, none⟩ = some (.map (some b)))
    (h : NumS w b kk f) (hp : HasS w P m ps) (hm : m ≤ 16777216) (hs : ∀ j, j < m → (wordAt ps j).size ≤ maxLen) (hv : ∀ j, j < m → ∃ i : Nat, f (wordAt ps j) = (i : Int) ∧ i < n ∧ w.cell? ⟨g, i, none⟩ = some (.int .i64 (val j))) :
    Calls Tryd.prog 103 #[.slice P m d, .func (.func 104) #[] #[.pointer (some ⟨q1, 0, none⟩), .pointer (some ⟨q2, 0, none⟩)]] w
      fun e w' => e = .returned (.slice (some ⟨w.heap.size, 0, none⟩) m m) ∧ Own w' w.heap.size (some ⟨w.heap.size, 0, none⟩) m m (mapTo val m) ∧ Below w.heap.size w w' := by
  have l1 : q1 < w.heap.size := World.block_lt_of_cell? w _ h1
  have l2 : q2 < w.heap.size := World.block_lt_of_cell? w _ h2
  have H1 := Lib.hid h1
  have H2 := Lib.hid h2
  have HM := Lib.hid h
  have HP := Lib.hid hp
  have HZ := Lib.hid hs
  have HV := Lib.hid hv
  clear h1 h2 h hp hs hv
  go_enter Tryd.func103, Tryd.ntmps103
  go_wp2_with (at_make; refine makeInts _ rfl _ rfl m rfl (by omega) ?_; intro w1 hf hb1)
  have hf := hf (vals (mapTo val m))
  go_loopw [13] (fun i wr => ∃ j : Nat, j ≤ m ∧ i = .int .i64 j ∧ Filled wr w.heap.size 3 w.heap.size m (vals (mapTo val m)) (fun q => q < j) ∧ Below w.heap.size w wr) (fun i _ => m - (intOf i).toNat)
  case atStart => exact ⟨0, Nat.zero_le _, rfl, hf, hb1⟩
  case round =>
    obtain ⟨j, hj, rfl, hfj, hbj⟩ := hrel
    by_cases hlt : j < m
    · obtain ⟨ad, rfl, hc⟩ := (HP.out.below hbj).elem hlt
      obtain ⟨i, hi, hin, hci⟩ := HV.out j hlt
      have hzs := HZ.out j hlt
      obtain ⟨s, hs⟩ : ∃ s, wordAt ps j = s := ⟨_, rfl⟩
      rw [hs] at hc hi hzs
      obtain ⟨u, hu⟩ := hfj.cell hlt
      have hfr := hfj.free j
      have HC := Lib.hid (byLine1_any q1 q2 b kk g n c f j s i (val j) wr (cellKept hbj l1 H1.out) (cellKept hbj l2 H2.out) (HM.out.below hbj HM.out.lt) hzs hi hin (cellKept hbj (World.block_lt_of_cell? w _ hci) hci))
      have q0 : (0 : Int) ≤ (j : Int) := by omega
      have q1 : (j : Int) < (m : Int) := by omega
      clear hi hci hzs hs hin
      go_wp2_with fail
      refine (HC.out).mono ?_
      rintro e w2 ⟨rfl, rfl⟩
      go_wp2
      go_roundw
      case rel =>
        refine ⟨j + 1, by omega, by go_num, ?_, hbj.setCell (Nat.le_refl _) _⟩
        exact hfj.put hlt (by rw [mapTo_vals _ hlt]) (by intro q _ hq; omega)
      case measure => simp [intOf]; omega
    · go_wp2
      go_ret
      exact ⟨rfl, ⟨mapTo_length _ _, hfj.full (by rw [vals_length, mapTo_length]) (by intro q hq; omega)⟩, hbj⟩

end Go.Proofs.YtcbofogmfelpkaaDoor
