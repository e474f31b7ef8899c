/- The widths of a party's inputs and their sum (inputWidths, bitsOfParty). For lists of at most 1048576 lines. -/
import Derived.Test.YtcbofogmfelpkaaDoorLnI17
namespace Go.Proofs.YtcbofogmfelpkaaDoor
open Go Go.RowKit
set_option maxRecDepth 100000

set_option maxHeartbeats 1000000 in
theorem isInputOf_any (p : Int) (w : World) :
    Calls Tryd.prog 91 #[.int .i64 p] w fun e w' => e = .returned (.func (.func 109) #[] #[.pointer (some ⟨w.heap.size, 0, none⟩)]) ∧ w'.cell? ⟨w.heap.size, 0, none⟩ = some (.int .i64 p) ∧ Below w.heap.size w w' := by
  have HB := Lib.hid (belowNew w (.cells #[.int .i64 p] 3))
  have HC : Hid ((w.alloc (.cells #[.int .i64 p] 3)).cell? ⟨w.heap.size, 0, none⟩ = some (.int .i64 p)) := (Blk.new w #[.int .i64 p] 3).cell (i := 0) rfl
  go_enter Tryd.func91, Tryd.ntmps91
  go_wp2_with fail
  go_ret
  exact ⟨rfl, HC.out, HB.out⟩

set_option maxRecDepth 100000 in
set_option maxHeartbeats 1000000 in
theorem inputWidths_any (A : Option Addr) (n c : Nat) (ls : List Ln) (p : Int) (w : World) (h : HasL w A n ls) (hn : n ≤ 1048576) :
    Calls Tryd.prog 59 #[.slice A n c, .int .i64 p] w fun e w' => ∃ R m c', e = .returned (.slice R m c') ∧ Own w' w.heap.size R m c' (inputsOf p ls) ∧ m ≤ n ∧ Below w.heap.size w w' := by
  have HH := Lib.hid h
  have HCh := Lib.hid (changedWidths_any A n c ls w h hn)
  clear h
  go_enter Tryd.func59, Tryd.ntmps59
  go_wp2_with fail
  refine (HCh.out).mono ?_
  rintro e w1 ⟨rfl, o1, b1⟩
  have HB1 := Lib.hid b1
  have HU1 := Lib.hid o1.has
  clear o1 b1
  go_wp2_with fail
  refine (isInputOf_any p w1).mono ?_
  rintro e w2 ⟨rfl, hc2, b2⟩
  have HB2 := Lib.hid (HB1.out.trans (b2.mono HB1.out.size))
  have HAt := Lib.hid (atLinesIn_any w1.heap.size p A n c ls (some ⟨w.heap.size, 0, none⟩) n w2 hc2 (HH.out.below HB2.out) hn (HU1.out.below b2))
  clear hc2 b2
  go_wp2_with fail
  refine (HAt.out).mono ?_
  rintro e w3 ⟨R, m, c', rfl, o3, hm, b3⟩
  have HO3 : Hid (Own w3 w.heap.size R m c' (inputsOf p ls)) := o3.mono HB2.out.size
  have HB3 := Lib.hid (HB2.out.trans (b3.mono HB2.out.size))
  clear o3 b3
  go_wp2_with fail
  go_ret
  exact ⟨R, m, c', rfl, HO3.out, hm, HB3.out⟩

set_option maxRecDepth 100000 in
set_option maxHeartbeats 1000000 in
theorem bitsOfParty_any (A : Option Addr) (n c : Nat) (ls : List Ln) (p : Int) (w : World) (h : HasL w A n ls) (hn : n ≤ 1048576) (hz : ∀ k, 0 ≤ (inputsOf p ls).getD k 0 ∧ (inputsOf p ls).getD k 0 ≤ 1000) :
    Calls Tryd.prog 51 #[.slice A n c, .int .i64 p] w fun e w' => e = .returned (.int .i64 (inputsOf p ls).sum) ∧ Below w.heap.size w w' := by
  have HI := Lib.hid (inputWidths_any A n c ls p w h hn)
  have HZ := Lib.hid hz
  clear h hz
  go_enter Tryd.func51, Tryd.ntmps51
  go_wp2_with fail
  refine (HI.out).mono ?_
  rintro e w1 ⟨R, m, c', rfl, o1, hm, b1⟩
  have HB1 := Lib.hid b1
  have HU := Lib.hid o1.has
  have HLm : Hid ((inputsOf p ls).length = m) := o1.has.1
  clear o1 b1
  go_wp2_with fail
  go_loop [5, 12] (fun q i => ∃ k : Nat, k ≤ m ∧ i = .int .i64 k ∧ q = .int .i64 (lsumTo (inputsOf p ls) k)) (fun _ i => m - (intOf i).toNat)
  case atStart => exact ⟨0, Nat.zero_le _, rfl, rfl⟩
  case round =>
    obtain ⟨k, hk, rfl, rfl⟩ := hrel
    have hs := lsumTo_range HZ.out k
    by_cases hlt : k < m
    · obtain ⟨ad, z, rfl, hc, HE⟩ := HU.out.elem hlt
      have hr := HZ.out k
      rw [← HE.out] at hr
      have HS : Hid (lsumTo (inputsOf p ls) (k + 1) = lsumTo (inputsOf p ls) k + z) := by show _ = _; rw [lsumTo, HE.out]
      obtain ⟨y, hy⟩ : ∃ y, lsumTo (inputsOf p ls) k = y := ⟨_, rfl⟩
      rw [hy] at hs HS ⊢
      obtain ⟨s0, s1⟩ := hs
      obtain ⟨r0, r1⟩ := hr
      have hw1 : IntKind.i64.wrap (y + z) = y + z := wrapIn (by omega) (by omega)
      have k0 : (0 : Int) ≤ (k : Int) := by omega
      have k1 : (k : Int) < (m : Int) := by omega
      clear hy
      go_wp2_with fail
      go_round
      case rel => exact ⟨k + 1, by omega, by go_num, by rw [HS.out]⟩
      case measure => simp [intOf]; omega
    · obtain rfl : k = m := by omega
      have HF : Hid (lsumTo (inputsOf p ls) k = (inputsOf p ls).sum) := by show _ = _; rw [← HLm.out, lsumTo_all]
      clear hs
      go_wp2_with fail
      go_ret
      exact ⟨retI HF.out, HB1.out⟩

end Go.Proofs.YtcbofogmfelpkaaDoor
