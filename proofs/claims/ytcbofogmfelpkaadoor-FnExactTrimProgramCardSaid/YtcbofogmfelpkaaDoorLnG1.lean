/- The model's small functions on programs: names, numbers of parts, operations, places of names, inputs, sums. For lists of at most 16777216 lines and strings that a machine holds. -/
import Derived.Test.YtcbofogmfelpkaaDoorLnM1
import Derived.Test.YtcbofogmfelpkaaDoorLn2
namespace Go.Proofs.YtcbofogmfelpkaaDoor
open Go Go.RowKit
set_option maxRecDepth 100000

theorem retBl {a b : Bool} (h : a = b) : Ending.returned (.bool a) = Ending.returned (.bool b) := by rw [h]
theorem byte_at (s : ByteArray) (i : Nat) (h : i < s.size) : s[i] = s.data.toList[i]'(by show i < s.data.toList.length; simpa using h) := by simp [ByteArray.getElem_eq_getElem_data]
theorem nameOk_yes {s : ByteArray} (h : ∀ j (hj : j < s.size), lowB (s[j]'hj) = true) : nameOk s = decide (1 ≤ s.size ∧ s.size ≤ 6) := by
  rw [nameOk]
  have e : s.data.toList.all lowB = true := by
    rw [List.all_eq_true]
    intro x hx
    obtain ⟨j, hj, rfl⟩ := List.getElem_of_mem hx
    have hj' : j < s.size := hj
    rw [← byte_at s j hj']
    exact h j hj'
  rw [e, Bool.true_and]
theorem nameOk_no {s : ByteArray} {k : Nat} (hk : k < s.size) (h : lowB (s[k]'hk) = false) : nameOk s = false := by
  rw [nameOk]
  have e : s.data.toList.all lowB = false := by
    rw [List.all_eq_false]
    exact ⟨_, List.getElem_mem (show k < s.data.toList.length from hk), by rw [← byte_at s k hk, h]; simp⟩
  rw [e, Bool.false_and]

set_option maxHeartbeats 1000000 in
theorem laName_any (s : ByteArray) (w : World) (hs : s.size ≤ 16777216) :
    Calls Tryd.prog 106 #[.string s] w fun e w' => e = .returned (.bool (nameOk s)) ∧ w = w' := by
  have HI := Lib.hid (l1In_any (s.size : Int) 1 6 (decide ((1 : Int) ≤ s.size) && decide ((s.size : Int) ≤ 6)) w rfl)
  have HA0 : Hid (∀ j (hj : j < s.size), j < 0 → lowB (s[j]'hj) = true) := fun j _ hj => absurd hj (Nat.not_lt_zero _)
  go_enter Tryd.func106, Tryd.ntmps106
  go_wp2_with fail
  go_loop [3] (fun i => ∃ k : Nat, k ≤ s.size ∧ i = .int .i64 k ∧ Hid (∀ j (hj : j < s.size), j < k → lowB (s[j]'hj) = true)) (fun i => s.size - (intOf i).toNat)
  case atStart => exact ⟨0, Nat.zero_le _, rfl, HA0⟩
  case round =>
    obtain ⟨k, hk, rfl, HA⟩ := hrel
    by_cases hlt : k < s.size
    · have k0 : (0 : Int) ≤ (k : Int) := by omega
      have k1 : (k : Int) < (s.size : Int) := by omega
      by_cases h1 : ((s[k]'hlt).toNat : Int) < 97
      · have HF : Hid (nameOk s = false) := nameOk_no hlt (by simp [lowB]; omega)
        go_wp2_with fail
        go_ret
        exact ⟨retBl HF.out.symm, rfl⟩
      · by_cases h2 : (122 : Int) < ((s[k]'hlt).toNat : Int)
        · have HF : Hid (nameOk s = false) := nameOk_no hlt (by simp [lowB]; omega)
          go_wp2_with fail
          go_ret
          exact ⟨retBl HF.out.symm, rfl⟩
        · have HA2 : Hid (∀ j (hj : j < s.size), j < k + 1 → lowB (s[j]'hj) = true) := fun j hj hjk => by
            by_cases e : j < k
            · exact HA.out j hj e
            · obtain rfl : j = k := by omega
              simp [lowB]; omega
          go_wp2_with fail
          go_round
          case rel => exact ⟨k + 1, by omega, by go_num, HA2⟩
          case measure => simp [intOf]; omega
    · obtain rfl : k = s.size := by omega
      have HR : Hid ((decide ((1 : Int) ≤ s.size) && decide ((s.size : Int) ≤ 6)) = nameOk s) := by
        show _ = _
        rw [nameOk_yes fun j hj => HA.out j hj hj, Bool.eq_iff_iff]
        simp
        omega
      go_wp2_with fail
      refine (HI.out).mono ?_
      rintro e w1 ⟨rfl, rfl⟩
      go_wp2_with fail
      go_ret
      exact ⟨retBl HR.out, rfl⟩

set_option maxHeartbeats 1000000 in
theorem laParts_any (k : Int) (w : World) : Calls Tryd.prog 107 #[.int .i64 k] w fun e w' => e = .returned (.int .i64 (partsK k)) ∧ w = w' := by
  by_cases h3 : k = 3
  · subst h3
    go_enter Tryd.func107, Tryd.ntmps107
    go_wp2_with fail
    go_ret
    exact ⟨rfl, rfl⟩
  · by_cases h4 : k = 4
    · subst h4
      go_enter Tryd.func107, Tryd.ntmps107
      go_wp2_with fail
      go_ret
      exact ⟨rfl, rfl⟩
    · by_cases h6 : k = 6
      · subst h6
        go_enter Tryd.func107, Tryd.ntmps107
        go_wp2_with fail
        go_ret
        exact ⟨rfl, rfl⟩
      · by_cases h5 : k = 5
        · subst h5
          go_enter Tryd.func107, Tryd.ntmps107
          go_wp2_with fail
          go_ret
          exact ⟨rfl, rfl⟩
        · have e : partsK k = 0 := by rw [partsK, if_neg h3, if_neg (by omega), if_neg h5]
          rw [e]
          have q3 : (k == 3) = false := by simpa using h3
          have q4 : (k == 4) = false := by simpa using h4
          have q5 : (k == 5) = false := by simpa using h5
          have q6 : (k == 6) = false := by simpa using h6
          clear e h3 h4 h5 h6
          go_enter Tryd.func107, Tryd.ntmps107
          go_wp2_with fail
          go_ret
          exact ⟨rfl, rfl⟩

def opsB : List ByteArray := (List.range 8).map opB
theorem opsB_at (k : Nat) (h : k < 8) : wordAt opsB k = opB k := by simp [opsB, wordAt, h]

set_option maxHeartbeats 1000000 in
theorem laOps_any (w : World) : Calls Tryd.prog 71 #[] w fun e w' => ∃ A, e = .returned (.slice A 8 8) ∧ HasS w' A 8 opsB ∧ Below w.heap.size w w' := by
  have b1 := belowNew w (.cells #[.string ⟨#[43]⟩, .string ⟨#[45]⟩, .string ⟨#[42]⟩, .string ⟨#[60]⟩, .string ⟨#[61]⟩, .string ⟨#[38]⟩, .string ⟨#[124]⟩, .string ⟨#[94]⟩] 9)
  have y1 := Blk.new w #[.string ⟨#[43]⟩, .string ⟨#[45]⟩, .string ⟨#[42]⟩, .string ⟨#[60]⟩, .string ⟨#[61]⟩, .string ⟨#[38]⟩, .string ⟨#[124]⟩, .string ⟨#[94]⟩] 9
  have HS : Hid (HasS (w.alloc (.cells #[.string ⟨#[43]⟩, .string ⟨#[45]⟩, .string ⟨#[42]⟩, .string ⟨#[60]⟩, .string ⟨#[61]⟩, .string ⟨#[38]⟩, .string ⟨#[124]⟩, .string ⟨#[94]⟩] 9)) (some ⟨w.heap.size, 0, none⟩) 8 opsB) := by
    refine ⟨by simp [opsB], fun _ => ⟨_, rfl, y1.lt, fun k hk => ?_⟩⟩
    rw [addNone', opsB_at k hk]
    rcases (by omega : k = 0 ∨ k = 1 ∨ k = 2 ∨ k = 3 ∨ k = 4 ∨ k = 5 ∨ k = 6 ∨ k = 7) with rfl | rfl | rfl | rfl | rfl | rfl | rfl | rfl <;> exact y1.cell rfl
  have HB := Lib.hid b1
  clear b1 y1
  go_enter Tryd.func71, Tryd.ntmps71
  go_wp2_with fail
  go_ret
  exact ⟨_, rfl, HS.out, HB.out⟩

set_option maxHeartbeats 1000000 in
theorem l1HasS_any (A : Option Addr) (n c : Nat) (ts : List ByteArray) (s : ByteArray) (b : Bool) (w : World) (h : HasS w A n ts) (hn : n ≤ 16777216) (hb : ts.any (fun t => same t s) = b) :
    Calls Tryd.prog 114 #[.slice A n c, .string s] w fun e w' => e = .returned (.bool b) ∧ w = w' := by
  have HH := Lib.hid h
  have HB := Lib.hid hb
  have HL : Hid (ts.length = n) := h.1
  have HA0 : Hid (∀ j, j < 0 → same (wordAt ts j) s = false) := fun j hj => absurd hj (Nat.not_lt_zero _)
  clear h hb
  go_enter Tryd.func114, Tryd.ntmps114
  go_wp2_with fail
  go_loop [9] (fun i => ∃ k : Nat, k ≤ n ∧ i = .int .i64 k ∧ Hid (∀ j, j < k → same (wordAt ts j) s = false)) (fun i => n - (intOf i).toNat)
  case atStart => exact ⟨0, Nat.zero_le _, rfl, HA0⟩
  case round =>
    obtain ⟨k, hk, rfl, HA⟩ := hrel
    by_cases hlt : k < n
    · obtain ⟨ad, rfl, hc⟩ := HH.out.elem hlt
      obtain ⟨t, ht⟩ : ∃ t, wordAt ts k = t := ⟨_, rfl⟩
      rw [ht] at hc
      have HT := Lib.hid ht
      have k0 : (0 : Int) ≤ (k : Int) := by omega
      have k1 : (k : Int) < (n : Int) := by omega
      obtain ⟨q, hq⟩ : ∃ q, same t s = q := ⟨_, rfl⟩
      have hq' : (t.toList == s.toList) = q := hq
      have HQ := Lib.hid hq
      clear ht hq
      cases q with
      | true =>
        have HF : Hid (b = true) := by
          show _ = _
          rw [← HB.out, List.any_eq_true]
          exact ⟨t, by rw [← HT.out, wordAt, List.getD_eq_getElem?_getD, List.getElem?_eq_getElem (by rw [HL.out]; exact hlt)]; exact List.getElem_mem _, HQ.out⟩
        go_wp2_with fail
        go_ret
        exact ⟨retBl HF.out.symm, rfl⟩
      | false =>
        have HA2 : Hid (∀ j, j < k + 1 → same (wordAt ts j) s = false) := fun j hj => by
          by_cases e : j < k
          · exact HA.out j e
          · obtain rfl : j = k := by omega
            rw [HT.out]; exact HQ.out
        go_wp2_with fail
        go_round
        case rel => exact ⟨k + 1, by omega, by go_num, HA2⟩
        case measure => simp [intOf]; omega
    · obtain rfl : k = n := by omega
      have HF : Hid (b = false) := by
        show _ = _
        rw [← HB.out, List.any_eq_false]
        intro x hx
        obtain ⟨j, hj, rfl⟩ := List.getElem_of_mem hx
        have := HA.out j (by rw [HL.out] at hj; exact hj)
        rw [wordAt, List.getD_eq_getElem?_getD, List.getElem?_eq_getElem hj] at this
        simpa using this
      go_wp2_with fail
      go_ret
      exact ⟨retBl HF.out.symm, rfl⟩

/-! ## operations -/
theorem opB_inj : ∀ i, i < 8 → ∀ j, j < 8 → opB i = opB j → i = j := by decide
theorem opIx_eq {s : ByteArray} {j : Nat} (hj : j < 8) : opIx s = j ↔ opB j = s := by
  constructor
  · intro h
    have hl : (List.range 8).findIdx (fun j => same (opB j) s) < (List.range 8).length := by
      rw [List.length_range]; show opIx s < 8; omega
    have h1 := List.findIdx_getElem (w := hl)
    simp only [List.getElem_range] at h1
    have h2 : (List.range 8).findIdx (fun j => same (opB j) s) = j := h
    rw [h2] at h1
    exact (same_iff _ _).1 h1
  · intro h
    subst h
    rw [opIx, List.findIdx_eq (by simpa using hj)]
    refine ⟨by simp [same_iff], fun i hi => ?_⟩
    rw [List.getElem_range]
    cases e : same (opB i) (opB j) with
    | false => rfl
    | true =>
      have := opB_inj i (by omega) j hj ((same_iff _ _).1 e)
      omega
theorem ops_any (s : ByteArray) : opsB.any (fun t => same t s) = decide (opIx s < 8) := by
  rw [Bool.eq_iff_iff, List.any_eq_true, decide_eq_true_eq]
  constructor
  · rintro ⟨t, ht, h⟩
    obtain ⟨j, hj, rfl⟩ := List.mem_map.1 ht
    have := (opIx_eq (s := s) (List.mem_range.1 hj)).2 ((same_iff _ _).1 h)
    have := List.mem_range.1 hj
    omega
  · intro h
    exact ⟨opB (opIx s), List.mem_map.2 ⟨_, List.mem_range.2 h, rfl⟩, (same_iff _ _).2 ((opIx_eq h).1 rfl)⟩
theorem op_test (s : ByteArray) (j : Nat) (hj : j < 8) : (s.toList == (opB j).toList) = decide (opIx s = j) := by
  rw [Bool.eq_iff_iff, decide_eq_true_eq, opIx_eq hj, beq_iff_eq, toList_data, toList_data]
  constructor
  · intro h
    rw [← ofL_data s, h, ofL_data]
  · rintro rfl; rfl

set_option maxHeartbeats 2000000 in
theorem laTwo_any (op : ByteArray) (a b : Int) (w : World) (ha : 0 ≤ a ∧ a ≤ 10) (hb : 0 ≤ b ∧ b ≤ 10) :
    Calls Tryd.prog 108 #[.string op, .int .i64 a, .int .i64 b] w fun e w' => e = .returned (.int .i64 (twoW op a b)) ∧ Below w.heap.size w w' := by
  by_cases hab : a = b
  · subst hab
    obtain ⟨b8, h8⟩ : ∃ q, decide (opIx op < 8) = q := ⟨_, rfl⟩
    have HO := Lib.hid (laOps_any w)
    have HH := Lib.hid (fun A w1 (h : HasS w1 A 8 opsB) => l1HasS_any A 8 8 opsB op b8 w1 h (by omega) ((ops_any op).trans h8))
    have t2 : (op.toList == [42]) = decide (opIx op = 2) := by
      have := op_test op 2 (by omega)
      rwa [show (opB 2).toList = [42] by simp [opB]] at this
    have t3 : (op.toList == [60]) = decide (opIx op = 3) := by
      have := op_test op 3 (by omega)
      rwa [show (opB 3).toList = [60] by simp [opB]] at this
    have t4 : (op.toList == [61]) = decide (opIx op = 4) := by
      have := op_test op 4 (by omega)
      rwa [show (opB 4).toList = [61] by simp [opB]] at this
    have hle := opIx_le op
    obtain ⟨a0, a1⟩ := ha
    have H8 := Lib.hid h8
    have HLe := Lib.hid hle
    clear h8 hle hb
    cases b8 with
    | false =>
      have HR : Hid (twoW op a a = 0) := by
        show _ = _
        have := H8.out
        have := HLe.out
        rw [twoW, if_pos (.inr (.inl (by simp at *; omega)))]
      clear t2 t3 t4
      go_enter Tryd.func108, Tryd.ntmps108
      go_wp2_with fail
      refine (HO.out).mono ?_
      rintro e w1 ⟨A, rfl, hs, b1⟩
      go_wp2_with fail
      refine (HH.out _ _ hs).mono ?_
      rintro e w2 ⟨rfl, rfl⟩
      go_wp2_with fail
      go_ret
      exact ⟨retI HR.out.symm, b1⟩
    | true =>
      have h8 : opIx op < 8 := by simpa using H8.out
      by_cases e2 : opIx op = 2
      · have q2 : (op.toList == [42]) = true := by rw [t2]; simpa using e2
        have q3 : (op.toList == [60]) = false := by rw [t3]; simp; omega
        have q4 : (op.toList == [61]) = false := by rw [t4]; simp; omega
        have HR : Hid (twoW op a a = if 10 < 2 * a then 0 else 2 * a) := by
          show _ = _
          rw [twoW]
          by_cases h : 10 < 2 * a
          · rw [if_pos (.inr (.inr ⟨e2, h⟩)), if_pos h]
          · rw [if_neg (by omega), if_pos e2, if_neg h]
        clear t2 t3 t4 h8 e2
        by_cases h : 10 < 2 * a
        · rw [if_pos h] at HR
          go_enter Tryd.func108, Tryd.ntmps108
          go_wp2_with fail
          refine (HO.out).mono ?_
          rintro e w1 ⟨A, rfl, hs, b1⟩
          go_wp2_with fail
          refine (HH.out _ _ hs).mono ?_
          rintro e w2 ⟨rfl, rfl⟩
          go_wp2_with fail
          go_ret
          exact ⟨retI HR.out.symm, b1⟩
        · rw [if_neg h] at HR
          go_enter Tryd.func108, Tryd.ntmps108
          go_wp2_with fail
          refine (HO.out).mono ?_
          rintro e w1 ⟨A, rfl, hs, b1⟩
          go_wp2_with fail
          refine (HH.out _ _ hs).mono ?_
          rintro e w2 ⟨rfl, rfl⟩
          go_wp2_with fail
          go_ret
          exact ⟨retI HR.out.symm, b1⟩
      · have q2 : (op.toList == [42]) = false := by rw [t2]; simpa using e2
        by_cases e3 : opIx op = 3
        · have q3 : (op.toList == [60]) = true := by rw [t3]; simpa using e3
          have HR : Hid (twoW op a a = 1) := by
            show _ = _
            rw [twoW, if_neg (by omega), if_neg e2, if_pos (.inl e3)]
          clear t2 t3 t4 h8 e2 e3
          go_enter Tryd.func108, Tryd.ntmps108
          go_wp2_with fail
          refine (HO.out).mono ?_
          rintro e w1 ⟨A, rfl, hs, b1⟩
          go_wp2_with fail
          refine (HH.out _ _ hs).mono ?_
          rintro e w2 ⟨rfl, rfl⟩
          go_wp2_with fail
          go_ret
          exact ⟨retI HR.out.symm, b1⟩
        · have q3 : (op.toList == [60]) = false := by rw [t3]; simpa using e3
          by_cases e4 : opIx op = 4
          · have q4 : (op.toList == [61]) = true := by rw [t4]; simpa using e4
            have HR : Hid (twoW op a a = 1) := by
              show _ = _
              rw [twoW, if_neg (by omega), if_neg e2, if_pos (.inr e4)]
            clear t2 t3 t4 h8 e2 e3 e4
            go_enter Tryd.func108, Tryd.ntmps108
            go_wp2_with fail
            refine (HO.out).mono ?_
            rintro e w1 ⟨A, rfl, hs, b1⟩
            go_wp2_with fail
            refine (HH.out _ _ hs).mono ?_
            rintro e w2 ⟨rfl, rfl⟩
            go_wp2_with fail
            go_ret
            exact ⟨retI HR.out.symm, b1⟩
          · have q4 : (op.toList == [61]) = false := by rw [t4]; simpa using e4
            have HR : Hid (twoW op a a = a) := by
              show _ = _
              rw [twoW, if_neg (by omega), if_neg e2, if_neg (by omega)]
            clear t2 t3 t4 h8 e2 e3 e4
            go_enter Tryd.func108, Tryd.ntmps108
            go_wp2_with fail
            refine (HO.out).mono ?_
            rintro e w1 ⟨A, rfl, hs, b1⟩
            go_wp2_with fail
            refine (HH.out _ _ hs).mono ?_
            rintro e w2 ⟨rfl, rfl⟩
            go_wp2_with fail
            go_ret
            exact ⟨retI HR.out.symm, b1⟩
  · have HR : Hid (twoW op a b = 0) := by
      show _ = _
      rw [twoW, if_pos (.inl hab)]
    have q : (a != b) = true := by simpa using hab
    go_enter Tryd.func108, Tryd.ntmps108
    go_wp2_with fail
    go_ret
    exact ⟨retI HR.out.symm, Below.refl _ _⟩

end Go.Proofs.YtcbofogmfelpkaaDoor
