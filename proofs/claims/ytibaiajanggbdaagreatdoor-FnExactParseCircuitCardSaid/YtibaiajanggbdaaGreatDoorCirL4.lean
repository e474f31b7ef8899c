/- The program's lines of a text: a word and numbers from 0 to 1000000. -/
import Derived.Test.YtibaiajanggbdaaGreatDoorCirL2
import Derived.Test.YtibaiajanggbdaaGreatDoorCirK2
namespace Go.Proofs.YtibaiajanggbdaaGreatDoor
open Go.RowKit Go.Shelf
set_option maxRecDepth 100000

theorem strCells_nums (zs : List Int) : Lib.strCells (strOfNums zs) = Lib.byteCells (bytesL zs) := by
  simp [Lib.strCells, Lib.byteCells, strOfNums, bytesL]
theorem byteCells_nums (zs ys : List Int) : Lib.byteCells (bytesL zs) ++ Lib.byteCells (bytesL ys) = Lib.byteCells (bytesL (zs ++ ys)) := by simp [Lib.byteCells, bytesL]

set_option maxRecDepth 100000 in
set_option maxHeartbeats 4000000 in
theorem lineOf_any (word : ByteArray) (kl : List Int) (R : Option Addr) (n c : Nat) (is : List Int) (w : World) (hw : word = strOfNums kl) (hkl : kl.length ≤ 8) (h : Has w R n is) (hn : n ≤ 64)
    (hin : ∀ j, j < n → 0 ≤ is.getD j 0 ∧ is.getD j 0 ≤ 1000000) (htab : Lib.TabBelow Tryz.prog w.heap.size w "internal/strconv.uint64pow10" .u64 Lib.pow10Tab) :
    Calls Tryz.prog 67 #[.string word, .slice R n c] w fun e w' => ∃ t, e = .returned (.string t) ∧ Hid (t = strOfNums (kl ++ numsL is ++ [10])) ∧ t.size ≤ 16 + 8 * n ∧ Below w.heap.size w w' := by
  obtain ⟨i0, hi, hz0, hz1, hz2⟩ := info_parts infoByte
  have hsz : word.size = kl.length := by rw [hw, strOfNums_size]
  have hcv := fun w => run_bytes_of_string (P := Tryz.prog) w 9 22 5 word Tryz.underlying9 Tryz.underlying22 Tryz.underlying5
  have L0 := Line.ofString (B := w.heap.size) (e := 5) w (Nat.le_refl _) word (by rw [hsz]; unfold maxLen; omega)
  have hlen : is.length = n := h.1
  have HIn := Lib.hid hin
  have HTab := Lib.hid htab
  have HL : Hid (is.length = n) := hlen
  have B0 : Below w.heap.size w (w.drew.alloc (.cells (bytesRow word (grownCap w word.size 0 5)) 5 ((bytesRow word (grownCap w word.size 0 5)).size, (bytesRow word (grownCap w word.size 0 5)).size + 1))) := ((Below.refl _ w).drew).alloc (Nat.le_refl _) _
  rw [show Lib.strCells word = Lib.byteCells (bytesL kl) by rw [hw]; exact strCells_nums kl] at L0
  obtain ⟨cp, hcp⟩ : ∃ cp, grownCap w word.size 0 5 = cp := ⟨_, rfl⟩
  simp only [hcp] at hcv L0 B0
  have hcv1 := hcv w
  rw [hcp] at hcv1
  obtain ⟨W1, hW1⟩ : ∃ W, W = w.drew.alloc (.cells (bytesRow word cp) 5 ((bytesRow word cp).size, (bytesRow word cp).size + 1)) := ⟨_, rfl⟩
  rw [← hW1] at L0 B0 hcv1
  obtain ⟨v0, hv0⟩ : ∃ v, v = Value.slice (some ⟨w.heap.size, 0, none⟩) word.size cp := ⟨_, rfl⟩
  rw [← hv0] at L0 hcv1
  have H0 : Hid (kl = kl ++ numsL (is.take 0)) := by show _ = _; simp [numsL]
  have HW : Hid (word.size ≤ 8) := by show _ ≤ _; omega
  have HL0 := Lib.hid L0
  have HB0 := Lib.hid B0
  clear hcv hin htab hlen L0 B0 hW1 hcp hv0 hw
  go_enter Tryz.func67, Tryz.ntmps67
  go_wp2_with fail
  go_loopw [5, 12] (fun v i wr => ∃ (k : Nat) (zs : List Int) (m : Nat), k ≤ n ∧ i = .int .i64 k ∧ Line wr w.heap.size 5 v m (Lib.byteCells (bytesL zs)) ∧ m ≤ 8 + 8 * k ∧ Hid (zs = kl ++ numsL (is.take k)) ∧ Below w.heap.size w wr) (fun _ i _ => n - (intOf i).toNat)
  case atStart => exact ⟨0, kl, word.size, Nat.zero_le _, rfl, HL0.out, by have := HW.out; omega, H0, HB0.out⟩
  case round =>
    obtain ⟨k, zs, m, hk, rfl, L, hm, HZ, bk⟩ := hrel
    by_cases hlt : k < n
    · obtain ⟨ad, z, rfl, hc, HE⟩ := (h.below bk).elem hlt
      obtain ⟨u, rfl, hu⟩ : ∃ u : Nat, z = (u : Int) ∧ u ≤ 1000000 := by
        have := HIn.out k hlt
        rw [← HE.out] at this
        exact ⟨z.toNat, by omega, by omega⟩
      have HS : Hid (zs ++ [32] ++ numL u = kl ++ numsL (is.take (k + 1))) := by
        show _ = _
        rw [numsL_step is k (by have := HL.out; omega), ← HE.out, HZ.out, show ((u : Int)).toNat = u by omega]
        simp only [List.append_assoc]
      have q0 : (0 : Int) ≤ (k : Int) := by omega
      have q1 : (k : Int) < (n : Int) := by omega
      have hBr := bk.size
      have B1 := belowNew wr (.cells #[.int .u8 32] 5)
      clear HE
      go_wp2_with (at_builtin; refine wpOn _ rfl _ _ 22 rfl w.heap.size 5 i0 Tryz.underlying22 hi hz0 hz1 hz2 _ _ _ rfl (L.alloc _) ⟨wr.heap.size, 0, none⟩ 1 1 [Value.int .u8 32] rfl rfl (by intro j u' hj; match j, hj with | 0, hj => simp at hj; subst hj; simp [Addr.add]) (by intro u' hu'; simp at hu'; subst hu'; rfl) (by omega) (by simp; omega) ?_)
      intro v1 w1 h1 hgrow
      have b1 : Below w.heap.size w w1 := (bk.trans (B1.mono hBr)).grown hgrow (by simp; omega) (fun g hg => (L.lt g hg).1)
      have h1' : Line w1 w.heap.size 5 v1 (m + 1) (Lib.byteCells (bytesL (zs ++ [32]))) := by rw [← byteCells_nums]; exact h1
      have hB1 := b1.size
      clear h1 hgrow B1 L hc
      go_wp2_with fail
      refine (appendInt_on w.heap.size (m + 1) u (by omega) v1 _ w1 h1' hB1 (by omega) (HTab.out w1 b1)).mono ?_
      rintro e w2 ⟨v2, rfl, h2, b2⟩
      have h2' : Line w2 w.heap.size 5 v2 (m + 1 + (numL u).length) (Lib.byteCells (bytesL (zs ++ [32] ++ numL u))) := by
        rw [← byteCells_nums, bytesL_num]
        rw [← bytesL_num, bytesL_length, bytesL_num] at h2
        exact h2
      have hu7 := numL_length 6 u (by omega)
      clear h2
      go_wp2_with fail
      go_roundw
      case rel => exact ⟨k + 1, _, _, by omega, by go_num, h2', by omega, HS, b1.trans b2⟩
      case measure => simp [intOf]; omega
    · obtain rfl : k = n := by omega
      have HE : Hid (zs = kl ++ numsL is) := by
        show _ = _
        rw [HZ.out, List.take_of_length_le (by have := HL.out; omega)]
      have hBr := bk.size
      have B1 := belowNew wr (.cells #[.int .u8 10] 5)
      go_wp2_with (at_builtin; refine wpOn _ rfl _ _ 22 rfl w.heap.size 5 i0 Tryz.underlying22 hi hz0 hz1 hz2 _ _ _ rfl (L.alloc _) ⟨wr.heap.size, 0, none⟩ 1 1 [Value.int .u8 10] rfl rfl (by intro j u' hj; match j, hj with | 0, hj => simp at hj; subst hj; simp [Addr.add]) (by intro u' hu'; simp at hu'; subst hu'; rfl) (by omega) (by simp; omega) ?_)
      intro v1 w1 h1 hgrow
      have b1 : Below w.heap.size w w1 := (bk.trans (B1.mono hBr)).grown hgrow (by simp; omega) (fun g hg => (L.lt g hg).1)
      have hl1 : (bytesL (zs ++ [10])).length = m + 1 := by
        have := h1.1
        rw [show [Value.int .u8 10] = Lib.byteCells (bytesL [10]) from rfl, byteCells_nums] at this
        rw [← this]
        simp [Lib.byteCells]
      have h1' : Line w1 w.heap.size 5 v1 (bytesL (zs ++ [10])).length (Lib.byteCells (bytesL (zs ++ [10]))) := by rw [hl1, ← byteCells_nums]; exact h1
      have hcb := Line.toString (P := Tryz.prog) 22 9 (bytesL (zs ++ [10])) h1' Tryz.underlying22 Tryz.underlying5 Tryz.underlying9
      have HT : Hid ((⟨(bytesL (zs ++ [10])).toArray⟩ : ByteArray) = strOfNums (kl ++ numsL is ++ [10])) := by show _ = _; rw [← HE.out]; rfl
      have hts : (⟨(bytesL (zs ++ [10])).toArray⟩ : ByteArray).size = m + 1 := by rw [← hl1]; simp [ByteArray.size]
      obtain ⟨t, ht⟩ : ∃ t, (⟨(bytesL (zs ++ [10])).toArray⟩ : ByteArray) = t := ⟨_, rfl⟩
      rw [ht] at hcb HT hts
      clear h1 hgrow B1 L ht
      go_wp2_with fail
      go_ret
      exact ⟨t, rfl, HT, by omega, b1⟩

end Go.Proofs.YtibaiajanggbdaaGreatDoor
