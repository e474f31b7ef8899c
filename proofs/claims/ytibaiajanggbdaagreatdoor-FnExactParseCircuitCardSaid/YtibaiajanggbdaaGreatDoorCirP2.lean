/- The model's cutting of a text at a byte, and its reading of a number. For every text of at most 1048576 bytes. -/
import Derived.Test.YtibaiajanggbdaaGreatDoorCirP1
import Derived.Test.YtibaiajanggbdaaGreatDoorCirL6
namespace Go.Proofs.YtibaiajanggbdaaGreatDoor
open Go Go.RowKit
set_option maxRecDepth 100000

theorem data_at (s : ByteArray) (i : Nat) (h : i < s.size) : s[i] = s.data.toList[i]'(by show i < s.data.toList.length; simpa using h) := by simp [ByteArray.getElem_eq_getElem_data]
theorem extract_mid (s : ByteArray) (f i : Nat) : (s.extract f i).data.toList = (s.data.toList.drop f).take (i - f) := by
  rw [Lib.extract_data]

set_option maxRecDepth 100000 in
set_option maxHeartbeats 4000000 in
theorem l1Split_any (s : ByteArray) (b : UInt8) (w : World) (hs : s.size ≤ 1048576) :
    Calls Tryz.prog 107 #[.string s, .int .u8 (b.toNat : Int)] w fun e w' => ∃ v n ts, e = .returned v ∧ Strs w' w.heap.size v n ts ∧ Hid (ts.map (·.data.toList) = cutL b [] s.data.toList) ∧ 1 ≤ n ∧ n ≤ s.size + 1 ∧ Below w.heap.size w w' := by
  have HN : Hid (s.data.toList.length = s.size) := rfl
  have H0 : Hid (cutL b [] s.data.toList = ([] : List ByteArray).map (·.data.toList) ++ cutL b ((s.data.toList.take 0).drop 0) (s.data.toList.drop 0)) := by show _ = _; simp
  have HB := Lib.hid (Below.refl w.heap.size w)
  go_enter Tryz.func107, Tryz.ntmps107
  go_wp2_with fail
  go_loopw [5, 6, 7] (fun v f i wr => ∃ (k g n : Nat) (ts : List ByteArray), k ≤ s.size ∧ g ≤ k ∧ n ≤ k ∧ i = .int .i64 k ∧ f = .int .i64 g ∧ Strs wr w.heap.size v n ts ∧ Hid (cutL b [] s.data.toList = ts.map (·.data.toList) ++ cutL b ((s.data.toList.take k).drop g) (s.data.toList.drop k)) ∧ Below w.heap.size w wr) (fun _ _ i _ => s.size - (intOf i).toNat)
  case atStart => exact ⟨0, 0, 0, [], Nat.zero_le _, Nat.le_refl _, Nat.le_refl _, rfl, rfl, ⟨rfl, World.ownsRow_nil _ _ _ _⟩, H0, HB.out⟩
  case round =>
    obtain ⟨k, g, n, ts, hk, hg, hn, rfl, rfl, hts, HC, bk⟩ := hrel
    have q0 : (0 : Int) ≤ (k : Int) := by omega
    have q1 : (0 : Int) ≤ (g : Int) := by omega
    have q2 : (g : Int) ≤ (k : Int) := by omega
    have q3 : (k : Int) ≤ (s.size : Int) := by omega
    have sz := bk.size
    by_cases hj : k < s.size
    · have q4 : (k : Int) < (s.size : Int) := by omega
      have hjd : k < s.data.toList.length := by rw [HN.out]; exact hj
      have hx := data_at s k hj
      by_cases hb : s[k]'hj = b
      · have HB1 : Hid (cutL b ((s.data.toList.take k).drop g) (s.data.toList.drop k) = (s.extract g k).data.toList :: cutL b ((s.data.toList.take (k + 1)).drop (k + 1)) (s.data.toList.drop (k + 1))) := by
          show _ = _
          rw [extract_mid]
          exact cutL_hit hjd (by rw [← hx]; exact hb) hg
        have hc : (((s[k]'hj).toNat : Int) == (b.toNat : Int)) = true := by rw [hb]; simp
        have b1 := belowNew wr (.cells #[.string (s.extract g k)] 9)
        clear hb hx hjd
        go_wp2_with (at_builtin; refine strOnto _ rfl _ _ rfl (s.extract g k) w.heap.size _ n ts wr.heap.size rfl rfl ((Blk.new wr #[.string (s.extract g k)] 9).cell (i := 0) rfl) (hts.below b1) (by omega) (Nat.le_trans sz b1.size) ?_)
        intro v2 w2 S2 b2
        go_wp2_with fail
        go_roundw
        case rel =>
          refine ⟨k + 1, k + 1, n + 1, _, by omega, Nat.le_refl _, by omega, by go_num, by go_num, S2, ?_, bk.trans ((b1.mono sz).trans b2)⟩
          show _ = _
          rw [HC.out, HB1.out, List.map_append, List.append_assoc]
          rfl
        case measure => simp [intOf]; omega
      · have HB1 : Hid (cutL b ((s.data.toList.take k).drop g) (s.data.toList.drop k) = cutL b ((s.data.toList.take (k + 1)).drop g) (s.data.toList.drop (k + 1))) := by
          show _ = _
          exact cutL_miss hjd (by rw [← hx]; exact hb) hg
        have hc : (((s[k]'hj).toNat : Int) == (b.toNat : Int)) = false := by
          cases h : (((s[k]'hj).toNat : Int) == (b.toNat : Int)) with
          | false => rfl
          | true =>
            have h1 : ((s[k]'hj).toNat : Int) = (b.toNat : Int) := by simpa using h
            exact absurd (UInt8.toNat_inj.1 (by omega)) hb
        clear hb hx hjd
        go_wp2_with fail
        go_roundw
        case rel =>
          refine ⟨k + 1, g, n, ts, by omega, by omega, by omega, by go_num, rfl, hts, ?_, bk⟩
          show _ = _
          rw [HC.out, HB1.out]
        case measure => simp [intOf]; omega
    · obtain rfl : k = s.size := by omega
      have HE : Hid (cutL b [] s.data.toList = (ts ++ [s.extract g s.size]).map (·.data.toList)) := by
        show _ = _
        have hd : s.data.toList.drop s.size = [] := List.drop_eq_nil_of_le (Nat.le_of_eq HN.out)
        have ht : s.data.toList.take s.size = s.data.toList := List.take_of_length_le (Nat.le_of_eq HN.out)
        rw [HC.out, hd, ht, cutL, List.map_append, List.map_cons, List.map_nil, extract_mid, List.take_of_length_le (by rw [List.length_drop, HN.out]; exact Nat.le_refl _)]
      have b1 := belowNew wr (.cells #[.string (s.extract g s.size)] 9)
      go_wp2_with (at_builtin; refine strOnto _ rfl _ _ rfl (s.extract g s.size) w.heap.size _ n ts wr.heap.size rfl rfl ((Blk.new wr #[.string (s.extract g s.size)] 9).cell (i := 0) rfl) (hts.below b1) (by omega) (Nat.le_trans sz b1.size) ?_)
      intro v2 w2 S2 b2
      go_wp2_with fail
      go_ret
      exact ⟨_, _, _, rfl, S2, HE.out.symm, by omega, by omega, bk.trans ((b1.mono sz).trans b2)⟩

theorem readN_long {L : List UInt8} (h : ¬ (1 ≤ L.length ∧ L.length ≤ 6)) : readN L = -1 := by rw [readN, if_neg (fun h1 => h ⟨h1.1, h1.2.1⟩)]
theorem readN_zero {L : List UInt8} (h : L.head? = some 48 ∧ 1 < L.length) : readN L = -1 := by rw [readN, if_neg (fun h1 => h1.2.2.1 h)]
theorem readN_bad {L : List UInt8} (h : L.all digitB = false) : readN L = -1 := by rw [readN, if_neg (fun h1 => by rw [h] at h1; exact absurd h1.2.2.2 (by simp))]
theorem readN_good {L : List UInt8} (h1 : 1 ≤ L.length) (h2 : L.length ≤ 6) (h3 : ¬ (L.head? = some 48 ∧ 1 < L.length)) (h4 : L.all digitB = true) : readN L = (valL L : Int) := by rw [readN, if_pos ⟨h1, h2, h3, h4⟩]
theorem all_bad {L : List UInt8} {k : Nat} (hk : k < L.length) (h : digitB (L[k]'hk) = false) : L.all digitB = false := by
  rw [List.all_eq_false]
  exact ⟨_, List.getElem_mem hk, by rw [h]; simp⟩
theorem take_next {L : List UInt8} {k : Nat} (hk : k < L.length) : L.take (k + 1) = L.take k ++ [L[k]'hk] := by
  rw [List.take_add_one, List.getElem?_eq_getElem hk, Option.toList_some]

set_option maxRecDepth 100000 in
set_option maxHeartbeats 4000000 in
theorem l1Read_any (s : ByteArray) (r : Int) (w : World) (hs : s.size ≤ 1048576) (hr : readN s.data.toList = r) :
    Calls Tryz.prog 122 #[.string s] w fun e w' => e = .returned (.int .i64 r) ∧ w = w' := by
  have HR := Lib.hid hr
  clear hr
  have HN : Hid (s.data.toList.length = s.size) := rfl
  by_cases h16 : 1 ≤ s.size ∧ s.size ≤ 6
  · obtain ⟨h1, h6⟩ := h16
    have q0 : (1 : Int) ≤ (s.size : Int) := by omega
    have q1 : (s.size : Int) ≤ 6 := by omega
    have hj0 : 0 < s.size := by omega
    have hhead : s.data.toList.head? = some (s[0]'hj0) := by
      rw [data_at s 0 hj0, List.head?_eq_getElem?, List.getElem?_eq_getElem]
    by_cases hz : (s[0]'hj0).toNat = 48 ∧ 1 < s.size
    · obtain ⟨z1, z2⟩ := hz
      obtain rfl : -1 = r := by
        rw [← HR.out, readN_zero]
        exact ⟨by rw [hhead]; exact congrArg some (UInt8.toNat_inj.1 z1), by rw [HN.out]; exact z2⟩
      have c1 : (((s[0]'hj0).toNat : Int) == 48) = true := by rw [z1]; rfl
      have c2 : (1 : Int) < (s.size : Int) := by omega
      clear hhead z1 HR
      go_enter Tryz.func122, Tryz.ntmps122
      go_wp2_with (go_at_call 82; refine (l1In_any _ _ _ true _ (by simpa using And.intro q0 q1)).mono ?_; rintro e w' ⟨rfl, rfl⟩)
      go_ret
      exact ⟨rfl, rfl⟩
    · have HZ : Hid (¬ (s.data.toList.head? = some 48 ∧ 1 < s.data.toList.length)) := by
        rintro ⟨a, b⟩
        rw [hhead] at a
        have h48 : s[0]'hj0 = 48 := Option.some.inj a
        exact hz ⟨by rw [h48]; rfl, by rw [HN.out] at b; exact b⟩
      have H0 : Hid (valL (s.data.toList.take 0) = 0) := rfl
      have h1L : 1 ≤ s.data.toList.length := by rw [HN.out]; exact h1
      have h6L : s.data.toList.length ≤ 6 := by rw [HN.out]; exact h6
      have HL := Lib.hid (And.intro h1L h6L)
      have HX := Lib.hid hz
      clear hz hhead h1L h6L
      go_enter Tryz.func122, Tryz.ntmps122
      go_upto_region 1 with fail
      go_cut [18] (fun v wx => v = .bool false ∧ wx = w)
      case first =>
        by_cases h48 : (s[0]'hj0).toNat = 48
        · have c1 : (((s[0]'hj0).toNat : Int) == 48) = true := by rw [h48]; rfl
          have c2 : decide ((1 : Int) < (s.size : Int)) = false := by
            have := HX.out
            simp only [decide_eq_false_iff_not]
            intro h7
            exact this ⟨h48, by omega⟩
          go_wp2_with (go_at_call 82; refine (l1In_any _ _ _ true _ (by simpa using And.intro q0 q1)).mono ?_; rintro e w' ⟨rfl, rfl⟩)
          go_meet
          exact ⟨by simp, rfl⟩
        · have c1 : (((s[0]'hj0).toNat : Int) == 48) = false := by simp; omega
          go_wp2_with (go_at_call 82; refine (l1In_any _ _ _ true _ (by simpa using And.intro q0 q1)).mono ?_; rintro e w' ⟨rfl, rfl⟩)
          go_meet
          exact ⟨by simp, rfl⟩
      case rest =>
      obtain ⟨rfl, rfl⟩ := hcut
      clear hj0 HX
      go_wp2_with fail
      go_loopw [3, 4] (fun v i wr => ∃ (k m : Nat), k ≤ s.size ∧ i = .int .i64 k ∧ v = .int .i64 m ∧ Hid (valL (s.data.toList.take k) = m) ∧ m < 1000000 ∧ Hid (m < 10 ^ k) ∧ Hid ((s.data.toList.take k).all digitB = true) ∧ wr = wc) (fun _ i _ => s.size - (intOf i).toNat)
      case atStart => exact ⟨0, 0, Nat.zero_le _, rfl, rfl, rfl, by omega, by show _ < _; decide, rfl, rfl⟩
      case round =>
        obtain ⟨k, m, hk, rfl, rfl, HV, hm, HM, HA, rfl⟩ := hrel
        have p0 : (0 : Int) ≤ (k : Int) := by omega
        have p1 : (k : Int) ≤ (s.size : Int) := by omega
        by_cases hj : k < s.size
        · have p2 : (k : Int) < (s.size : Int) := by omega
          have hjd : k < s.data.toList.length := by rw [HN.out]; exact hj
          have hx := data_at s k hj
          obtain ⟨x, hxx⟩ : ∃ x : Nat, (s[k]'hj).toNat = x := ⟨_, rfl⟩
          have x255 : x ≤ 255 := by have := (s[k]'hj).toNat_lt; omega
          have HD : Hid (digitB (s.data.toList[k]'hjd) = decide (48 ≤ x ∧ x ≤ 57)) := by show _ = _; rw [← hx, digitB, hxx]
          have HT : Hid (s.data.toList.take (k + 1) = s.data.toList.take k ++ [s.data.toList[k]'hjd]) := take_next hjd
          by_cases hlo : x < 48
          · have c1 : (x : Int) < 48 := by omega
            obtain rfl : -1 = r := by rw [← HR.out, readN_bad (all_bad hjd (by rw [HD.out]; simp; omega))]
            clear hx HD HT hjd
            go_wp2_with fail
            go_ret
            exact ⟨rfl, rfl⟩
          · have c1 : (48 : Int) ≤ (x : Int) := by omega
            by_cases hhi : 57 < x
            · have c2 : (57 : Int) < (x : Int) := by omega
              obtain rfl : -1 = r := by rw [← HR.out, readN_bad (all_bad hjd (by rw [HD.out]; simp; omega))]
              clear hx HD HT hjd
              go_wp2_with fail
              go_ret
              exact ⟨rfl, rfl⟩
            · have c2 : (x : Int) ≤ 57 := by omega
              have e1 : IntKind.u8.wrap ((x : Int) - 48) = (x : Int) - 48 := by rw [IntKind.wrap_u8]; omega
              have e2 : IntKind.i64.wrap ((x : Int) - 48) = (x : Int) - 48 := wrapIn (by omega) (by omega)
              have e3 : IntKind.i64.wrap (10 * (m : Int)) = 10 * (m : Int) := wrapIn (by omega) (by omega)
              have e4 : IntKind.i64.wrap (10 * (m : Int) + ((x : Int) - 48)) = ((10 * m + (x - 48) : Nat) : Int) := by rw [wrapIn (by omega) (by omega)]; omega
              have HV2 : Hid (valL (s.data.toList.take (k + 1)) = 10 * m + (x - 48)) := by
                show _ = _
                rw [HT.out, valL_snoc, HV.out, ← hx, hxx]
              have HM2 : Hid (10 * m + (x - 48) < 10 ^ (k + 1)) := by
                show _ < _
                have := HM.out
                rw [Nat.pow_succ]
                omega
              have HA2 : Hid ((s.data.toList.take (k + 1)).all digitB = true) := by
                show _ = _
                rw [HT.out, List.all_append, HA.out, List.all_cons, HD.out]
                simp; omega
              have hm2 : 10 * m + (x - 48) < 1000000 := by
                have h5 := HM2.out
                have h6 : 10 ^ (k + 1) ≤ 10 ^ 6 := Nat.pow_le_pow_right (by decide) (by omega)
                omega
              clear hx HD HT hjd
              go_wp2_with fail
              go_roundw
              case rel => exact ⟨k + 1, 10 * m + (x - 48), by omega, by go_num, rfl, HV2, hm2, HM2, HA2, (by first | rfl | trivial)⟩
              case measure => simp [intOf]; omega
        · obtain rfl : k = s.size := by omega
          have ht : s.data.toList.take s.size = s.data.toList := List.take_of_length_le (Nat.le_of_eq HN.out)
          have hv := HV.out
          have ha := HA.out
          rw [ht] at hv ha
          obtain rfl : (m : Int) = r := by rw [← HR.out, readN_good HL.out.1 HL.out.2 HZ.out ha, hv]
          clear ht hv ha
          go_wp2_with fail
          go_ret
          exact ⟨rfl, rfl⟩
  · obtain rfl : -1 = r := by rw [← HR.out, readN_long (by rw [HN.out]; exact h16)]
    have H16 := Lib.hid h16
    clear h16 HR
    go_enter Tryz.func122, Tryz.ntmps122
    go_wp2_with (go_at_call 82; refine (l1In_any _ _ _ false _ (by have := H16.out; simp; omega)).mono ?_; rintro e w' ⟨rfl, rfl⟩)
    go_ret
    exact ⟨rfl, rfl⟩

end Go.Proofs.YtibaiajanggbdaaGreatDoor
