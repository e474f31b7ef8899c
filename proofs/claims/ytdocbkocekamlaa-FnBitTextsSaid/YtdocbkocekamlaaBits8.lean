/- What ParseBits does, the program's and the model's: both give the same bits, the program's in a row of its own. For texts of at most 1048576 bytes. -/
import Derived.Test.YtdocbkocekamlaaBits7

import Derived.Lib.OthersKept
namespace Go.Proofs.Ytdocbkocekamlaa
open Go.RowKit

/-- The byte at a place of a text. -/
def chr (s : ByteArray) (k : Nat) : Int := if h : k < s.size then ((s[k]'h).toNat : Int) else 0
theorem chr_at {s : ByteArray} {k : Nat} (h : k < s.size) : chr s k = ((s[k]'h).toNat : Int) := by simp [chr, h]

/-- The bit of a byte, -1 for a byte that is none. -/
def bitOf (c : Int) : Int := if 0 ≤ c - 48 ∧ c - 48 ≤ 1 then c - 48 else -1
def parsed (s : ByteArray) : List Int := mapTo (fun j => bitOf (chr s (s.size - 1 - j))) s.size
def m_ParseBits (s : ByteArray) : List Int × Bool := if good 64 (parsed s) then (parsed s, true) else ([], false)

theorem parsed_length (s : ByteArray) : (parsed s).length = s.size := mapTo_length _ _

set_option maxHeartbeats 400000 in
theorem btParse_any (s : ByteArray) (w : World) (hs : s.size ≤ 1048576) :
    Calls Try.prog 49 #[.string s] w fun e w' => ∃ R c', e = .returned (.slice R s.size c') ∧ Own w' w.heap.size R s.size c' (parsed s) ∧ Below w.heap.size w w' := by
  go_enter Try.func49, Try.ntmps49
  go_wp2
  go_loopw [3, 4] (fun v i wr => ∃ k : Nat, k ≤ s.size ∧ i = .int .i64 ((k : Int) - 1) ∧ wr.ownsRow w.heap.size 3 1 v (s.size - k) (vals (mapTo (fun j => bitOf (chr s (s.size - 1 - j))) (s.size - k))) ∧ Below w.heap.size w wr) (fun _ i _ => (intOf i + 1).toNat)
  case atStart => exact ⟨s.size, Nat.le_refl _, by go_num, by simpa [mapTo, vals] using World.ownsRow_nil _ _ _ _, Below.refl _ _⟩
  case round =>
    obtain ⟨k, hk, rfl, hown, hbk⟩ := hrel
    cases k with
    | zero =>
      go_wp2
      go_ret
      obtain ⟨R, c', rfl, ho⟩ := ownOf hown
      exact ⟨R, c', rfl, ho, hbk⟩
    | succ j =>
      have e1 : ((j + 1 : Nat) : Int) - 1 = (j : Int) := by omega
      rw [e1]
      clear e1
      have hj : j < s.size := by omega
      have hsz := hbk.size
      have b255 : ((s[j]'hj).toNat : Int) ≤ 255 := by have := (s[j]'hj).toNat_lt; omega
      have hE : Hid (mapTo (fun i => bitOf (chr s (s.size - 1 - i))) (s.size - j) = mapTo (fun i => bitOf (chr s (s.size - 1 - i))) (s.size - (j + 1)) ++ [bitOf ((s[j]'hj).toNat : Int)]) := by
        show _ = _
        obtain ⟨q, hq⟩ : ∃ q, s.size - (j + 1) = q := ⟨_, rfl⟩
        have hq' : s.size - j = q + 1 := by omega
        have hq2 : s.size - 1 - q = j := by omega
        rw [hq', hq, mapTo_succ, hq2, chr_at hj]
      have hQ : Hid (s.size - (j + 1) + 1 = s.size - j) := by show _ = _; omega
      by_cases h01 : 0 ≤ ((s[j]'hj).toNat : Int) - 48 ∧ ((s[j]'hj).toNat : Int) - 48 ≤ 1
      · have hv : Hid (bitOf ((s[j]'hj).toNat : Int) = ((s[j]'hj).toNat : Int) - 48) := by show _ = _; rw [bitOf, if_pos h01]
        have H01 := Lib.hid h01
        clear h01
        go_wp2_with (first | (go_at_call 45; refine (l1In_any _ _ _ true _ (by have := H01.out; simpa using this)).mono ?_; rintro e w' ⟨rfl, rfl⟩) | (at_builtin; refine appendInt wr rfl (.tmp 21) (.tmp 23) rfl _ w.heap.size _ _ _ rfl rfl hown (by omega) hsz ?_; intro v' w1 hown1 hb1))
        go_roundw
        case rel =>
          refine ⟨j, by omega, by go_num, ?_, hbk.trans hb1⟩
          rw [hE.out, hv.out, ← hQ.out]
          exact hown1
        case measure => simp [intOf]
      · have hv : Hid (bitOf ((s[j]'hj).toNat : Int) = -1) := by show _ = _; rw [bitOf, if_neg h01]
        have H01 := Lib.hid h01
        clear h01
        go_wp2_with (first | (go_at_call 45; refine (l1In_any _ _ _ false _ (by have := H01.out; simpa using this)).mono ?_; rintro e w' ⟨rfl, rfl⟩) | (at_builtin; refine appendInt wr rfl (.tmp 21) (.tmp 23) rfl _ w.heap.size _ _ _ rfl rfl hown (by omega) hsz ?_; intro v' w1 hown1 hb1))
        go_roundw
        case rel =>
          refine ⟨j, by omega, by go_num, ?_, hbk.trans hb1⟩
          rw [hE.out, hv.out, ← hQ.out]
          exact hown1
        case measure => simp [intOf]

set_option maxHeartbeats 400000 in
theorem spec_ParseBits (s : ByteArray) (rs : List Int) (rb : Bool) (w : World) (hs : s.size ≤ 1048576) (hm : m_ParseBits s = (rs, rb)) :
    Calls Try.prog 26 #[.string s] w fun e w' => ∃ R m c', e = .returned (.tuple #[.slice R m c', .bool rb]) ∧ Has w' R m rs ∧ m ≤ 16777216 ∧ Below w.heap.size w w' := by
  cases hg : good 64 (parsed s) with
  | false =>
    rw [m_ParseBits, hg, if_neg (by simp)] at hm
    obtain ⟨rfl, rfl⟩ := Prod.mk.inj hm
    have HG := Lib.hid hg
    clear hm hg
    go_enter Try.func26, Try.ntmps26
    go_wp2_with fail
    refine (btParse_any s _ hs).mono ?_
    rintro e w1 ⟨R, c', rfl, ho, hb⟩
    go_wp2_with fail
    refine (specAreBits R s.size c' (parsed s) false _ ho.has (by omega) HG.out).mono ?_
    rintro e w' ⟨rfl, rfl⟩
    go_wp2_with fail
    go_ret2
    exact ⟨none, 0, 0, rfl, Has.nil_, by omega, hb⟩
  | true =>
    rw [m_ParseBits, hg, if_pos rfl] at hm
    obtain ⟨rfl, rfl⟩ := Prod.mk.inj hm
    have HG := Lib.hid hg
    clear hm hg
    go_enter Try.func26, Try.ntmps26
    go_wp2_with fail
    refine (btParse_any s _ hs).mono ?_
    rintro e w1 ⟨R, c', rfl, ho, hb⟩
    go_wp2_with fail
    refine (specAreBits R s.size c' (parsed s) true _ ho.has (by omega) HG.out).mono ?_
    rintro e w' ⟨rfl, rfl⟩
    go_wp2_with fail
    go_ret2
    exact ⟨R, s.size, c', rfl, ho.has, by omega, hb⟩

theorem bitOf_good {c : Int} : (0 ≤ bitOf c ∧ bitOf c ≤ 1) ↔ (c = 48 ∨ c = 49) := by
  unfold bitOf
  split <;> omega
theorem parsed_at (s : ByteArray) {k : Nat} (h : k < s.size) : (parsed s).getD k 0 = bitOf (chr s (s.size - 1 - k)) := mapTo_at _ h

/-- All bytes are the characters of bits. -/
theorem parse_yes {s : ByteArray} (h : s.size ≤ 64) (hd : ∀ k, k < s.size → chr s k = 48 ∨ chr s k = 49) : m_ParseBits s = (parsed s, true) := by
  have hg : good 64 (parsed s) = true := good_mk (by rw [parsed_length]; exact h) (fun k hk => by
    rw [parsed_length] at hk
    rw [parsed_at s hk]
    exact bitOf_good.2 (hd _ (by omega)))
  rw [m_ParseBits, hg, if_pos rfl]
/-- A byte is none. -/
theorem parse_no {s : ByteArray} {k : Nat} (hk : k < s.size) (hd : ¬ (chr s k = 48 ∨ chr s k = 49)) : m_ParseBits s = ([], false) := by
  cases hg : good 64 (parsed s) with
  | false => rw [m_ParseBits, hg, if_neg (by simp)]
  | true =>
    have h1 := (good_yes hg).2 (s.size - 1 - k) (by rw [parsed_length]; omega)
    rw [parsed_at s (by omega), show s.size - 1 - (s.size - 1 - k) = k by omega] at h1
    exact absurd (bitOf_good.1 h1) hd
theorem parse_long {s : ByteArray} (h : 64 < s.size) : m_ParseBits s = ([], false) := by
  cases hg : good 64 (parsed s) with
  | false => rw [m_ParseBits, hg, if_neg (by simp)]
  | true => have h1 := (good_yes hg).1; rw [parsed_length] at h1; omega

theorem Filled.iterAt {w : World} {B e g n : Nat} {ys : List Value} {D : Nat → Prop} (h : Filled w B e g n ys D) {N : Nat} (hN : g ≠ N) (s : ByteArray) (p : Nat) : Filled (w.iterAt N s p) B e g n ys D :=
  h.kept (row := some N) ⟨rfl, rfl, rfl, by rw [Lib.iterAt_size]; exact Nat.le_refl _, fun k _ hne => Lib.iterAt_other w N k s p (fun e => hne (by rw [e]))⟩ (fun e => hN (by injection e))

theorem iterPosOf {w : World} {N : Nat} {s : ByteArray} {p : Nat} (h : w.heap[N]? = some (.stringIter s p)) : w.iterPos N = p := by simp [World.iterPos, h]

set_option maxHeartbeats 1000000 in
theorem impl_ParseBits (s : ByteArray) (rs : List Int) (rb : Bool) (w : World) (_hs : s.size ≤ 1048576) (hm : m_ParseBits s = (rs, rb)) :
    Calls Try.prog 25 #[.string s] w fun e w' => ∃ R m c', e = .returned (.tuple #[.slice R m c', .bool rb]) ∧ Own w' w.heap.size R m c' rs ∧ m ≤ 16777216 ∧ Below w.heap.size w w' := by
  have HM := Lib.hid hm
  clear hm
  by_cases hlong : 64 < s.size
  · have hq := HM.out
    rw [parse_long hlong] at hq
    obtain ⟨rfl, rfl⟩ := Prod.mk.inj hq
    clear hq
    go_enter Try.func25, Try.ntmps25
    go_wp2
    go_ret2
    exact ⟨none, 0, 0, rfl, noList _⟩
  · go_enter Try.func25, Try.ntmps25
    go_wp2_with (at_make; refine makeInts _ rfl _ rfl s.size rfl (by omega) ?_; intro w1 hf hb1)
    have hf := hf (vals (parsed s))
    have hN : w.heap.size < w1.heap.size := hf.lt.2
    have HN := Lib.hid hN
    go_loopw [] (fun wr => ∃ k : Nat, k ≤ s.size ∧ wr.heap[w1.heap.size]? = some (.stringIter s k) ∧ Filled wr w.heap.size 3 w.heap.size s.size (vals (parsed s)) (fun j => s.size - k ≤ j) ∧ Below w.heap.size w wr ∧ Hid (∀ j, j < k → chr s j = 48 ∨ chr s j = 49)) (fun wr => s.size - wr.iterPos w1.heap.size)
    case atStart =>
      refine ⟨0, Nat.zero_le _, World.iter_heap w1 s 0, ?_, hb1.alloc (Nat.le_of_lt hN) _, fun j hj => absurd hj (by omega)⟩
      obtain ⟨xs, ho, _⟩ := hf.below ((Below.refl w1.heap.size w1).alloc (Nat.le_refl _) (.stringIter s 0))
      exact ⟨xs, ho, fun j hj hd => absurd hd (by omega)⟩
    case round =>
      obtain ⟨k, hk, hit, hfk, hbk, HD⟩ := hrel
      have hp0 := (show wr.iterPos w1.heap.size = k by simp [World.iterPos, hit])
      have HP := Lib.hid hp0
      clear hp0
      by_cases hlt : k < s.size
      · have hch := chr_at hlt
        have HC := Lib.hid hch
        clear hch
        by_cases h48 : (s[k]'hlt).toNat = 48 ∨ (s[k]'hlt).toNat = 49
        · have hnx : ∀ ty, (Instr.next (.pointer (some ⟨w1.heap.size, 0, none⟩)) true ty).run Try.prog wr = _ := fun ty => Lib.run_next_ascii_at wr w1.heap.size s k ty hit hlt (by omega)
          have hit2 := Lib.iterAt_heap wr w1.heap.size s k (k + 1) hit
          have hb2 := Lib.below_iterAt hbk (k := w1.heap.size) (Nat.le_of_lt hN) s (k + 1)
          have hf2 := hfk.iterAt (N := w1.heap.size) (by omega) s (k + 1)
          obtain ⟨W1, hW1⟩ : ∃ W1, W1 = wr.iterAt w1.heap.size s (k + 1) := ⟨_, rfl⟩
          rw [← hW1] at hnx hit2 hb2 hf2
          have hD2 : Hid (∀ j, j < k + 1 → chr s j = 48 ∨ chr s j = 49) := fun j hj => by
            by_cases e : j = k
            · subst e; rw [HC.out]; omega
            · exact HD.out j (by omega)
          obtain ⟨u, hu⟩ := hf2.cell (k := s.size - 1 - k) (by omega)
          have hfr := hf2.free (s.size - 1 - k)
          have HI := Lib.hid hit2
          have hv : Hid ((vals (parsed s))[s.size - 1 - k]? = some (.int .i64 (((s[k]'hlt).toNat : Int) - 48))) := by
            show _ = _
            rw [vals_at _ _ (by rw [parsed_length]; omega), parsed_at s (by omega), show s.size - 1 - (s.size - 1 - k) = k by omega, HC.out]
            unfold bitOf
            rw [if_pos (by omega)]
          clear hW1 hit hfk hbk HD hit2
          generalize (s[k]'hlt).toNat = b at *
          rcases h48 with rfl | rfl
          all_goals
            go_wp2
            go_roundw
            case rel => exact ⟨k + 1, by omega, (Below.heap_setCell _ _ _ _ (by show _ ≠ w.heap.size; omega)).trans HI.out, hf2.put (by omega) (by rw [hv.out]; rfl) (by intro j _ hj; omega), hb2.setCell (Nat.le_refl _) _, hD2⟩
            case measure => rw [HP.out, iterPosOf ((Below.heap_setCell _ _ _ _ (by show _ ≠ w.heap.size; omega)).trans HI.out)]; omega
        · have hnx : ∀ ty, (Instr.next (.pointer (some ⟨w1.heap.size, 0, none⟩)) true ty).run Try.prog wr = _ := fun ty => Lib.run_next_any_at wr w1.heap.size s k ty hit hlt
          have hb2 := Lib.below_iterAt hbk (k := w1.heap.size) (Nat.le_of_lt hN) s (k + (Utf8.decode s k).2)
          have hr : ¬ ((Utf8.decode s k).1 = 48) ∧ ¬ ((Utf8.decode s k).1 = 49) := by
            by_cases ha : (s[k]'hlt).toNat < 128
            · rw [decode_ascii s k hlt ha]
              show ¬ (s[k]'hlt).toNat = 48 ∧ ¬ (s[k]'hlt).toNat = 49
              omega
            · have := decode_high s k hlt (by omega)
              omega
          have hno := parse_no hlt (by rw [HC.out]; omega)
          have hq := HM.out
          rw [hno] at hq
          obtain ⟨rfl, rfl⟩ := Prod.mk.inj hq
          generalize wr.iterAt w1.heap.size s (k + (Utf8.decode s k).2) = W1 at hnx hb2
          generalize (Utf8.decode s k).1 = r at hnx hr
          obtain ⟨r48, r49⟩ := hr
          have d48 : ((r : Int) != 48) = true := by simp; omega
          have d49 : ((r : Int) != 49) = true := by simp; omega
          clear hno hq hfk hbk HD HC h48
          go_wp2
          go_ret2
          exact ⟨none, 0, 0, rfl, Own.nil_ _ _, by omega, hb2⟩
      · have hnx : ∀ ty, (Instr.next (.pointer (some ⟨w1.heap.size, 0, none⟩)) true ty).run Try.prog wr = _ := fun ty => Lib.run_next_end_at wr w1.heap.size s k ty hit hlt
        go_wp2
        go_ret2
        have h1 := HM.out
        rw [parse_yes (by omega) (fun j hj => HD.out j (by omega))] at h1
        obtain ⟨rfl, rfl⟩ := Prod.mk.inj h1
        exact ⟨some ⟨w.heap.size, 0, none⟩, s.size, s.size, rfl, ⟨parsed_length s, hfk.full (by rw [vals_length, parsed_length]) (by intro j hj; omega)⟩, by omega, hbk⟩

end Go.Proofs.Ytdocbkocekamlaa
