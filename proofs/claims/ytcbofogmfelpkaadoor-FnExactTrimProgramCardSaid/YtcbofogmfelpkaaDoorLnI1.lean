/- The program's small tests of lines: numbers within bounds, names, widths, operations, lines without numbers. For texts of at most 16777216 bytes. The words of the operations are as start-up lays them. -/
import Derived.Test.YtcbofogmfelpkaaDoorLnG1
import Derived.Test.YtcbofogmfelpkaaDoorLnK1
namespace Go.Proofs.YtcbofogmfelpkaaDoor
open Go Go.RowKit Go.Shelf
set_option maxRecDepth 100000

set_option maxHeartbeats 400000 in
theorem isBelowL_any (n l : Int) (b : Bool) (w : World) (hb : (decide (0 ≤ n) && decide (n < l)) = b) :
    Calls Tryd.prog 58 #[.int .i64 n, .int .i64 l] w fun e w' => e = .returned (.bool b) ∧ w = w' := by
  subst hb
  by_cases h1 : 0 ≤ n
  · by_cases h2 : n < l
    · go_enter Tryd.func58, Tryd.ntmps58
      go_wp2
      go_ret
      exact ⟨by simp [h1, h2], rfl⟩
    · go_enter Tryd.func58, Tryd.ntmps58
      go_wp2
      go_ret
      exact ⟨by simp; omega, rfl⟩
  · go_enter Tryd.func58, Tryd.ntmps58
    go_wp2
    go_ret
    exact ⟨by simp; omega, rfl⟩

set_option maxHeartbeats 400000 in
theorem isNumberWidth_any (z : Int) (b : Bool) (w : World) (hb : (decide (1 ≤ z) && decide (z ≤ 10)) = b) :
    Calls Tryd.prog 100 #[.int .i64 z] w fun e w' => e = .returned (.bool b) ∧ w = w' := by
  subst hb
  by_cases h1 : 1 ≤ z
  · by_cases h2 : z ≤ 10
    · go_enter Tryd.func100, Tryd.ntmps100
      go_wp2
      go_ret
      exact ⟨by simp [h1, h2], rfl⟩
    · go_enter Tryd.func100, Tryd.ntmps100
      go_wp2
      go_ret
      exact ⟨by simp; omega, rfl⟩
  · go_enter Tryd.func100, Tryd.ntmps100
    go_wp2
    go_ret
    exact ⟨by simp; omega, rfl⟩

/-! ## strings.Trim at the small letters -/
def azL : List UInt8 := [97, 98, 99, 100, 101, 102, 103, 104, 105, 106, 107, 108, 109, 110, 111, 112, 113, 114, 115, 116, 117, 118, 119, 120, 121, 122]
theorem az_low (x : UInt8) : azL.contains x = lowB x := by
  have key : ∀ n, n < 256 → azL.contains (UInt8.ofNat n) = lowB (UInt8.ofNat n) := by decide +kernel
  have h := key x.toNat x.toNat_lt
  rwa [UInt8.ofNat_toNat] at h
theorem dropWhile_all {p : UInt8 → Bool} : ∀ l : List UInt8, (l.dropWhile p).isEmpty = l.all p
  | [] => rfl
  | x :: l => by cases h : p x <;> simp [List.dropWhile, h]; simpa using dropWhile_all l
theorem dropWhile_all' {p : UInt8 → Bool} : ∀ l : List UInt8, (l.dropWhile p).all p = l.all p
  | [] => rfl
  | x :: l => by
    cases h : p x
    · simp [List.dropWhile, h]
    · rw [List.all_cons, h, Bool.true_and, List.dropWhile_cons_of_pos h]
      exact dropWhile_all' l
theorem trim_all (l cs : List UInt8) : (Lib.trimS l cs).isEmpty = l.all (cs.contains ·) := by
  rw [Lib.trimS, Lib.trimLeftS, dropWhile_all, Lib.trimRightS, List.all_reverse, dropWhile_all', List.all_reverse]

theorem trimAz_any (s : ByteArray) (w : World) (hs : s.size ≤ 16777216) :
    Calls Tryd.prog 113 #[.string s, .string ⟨#[97, 98, 99, 100, 101, 102, 103, 104, 105, 106, 107, 108, 109, 110, 111, 112, 113, 114, 115, 116, 117, 118, 119, 120, 121, 122]⟩] w fun e w' =>
      ∃ t : ByteArray, e = .returned (.string t) ∧ (s.data.toList.all lowB = true → t = ⟨#[]⟩) ∧ (s.data.toList.all lowB = false → ¬ t.data.toList = []) ∧ Below w.heap.size w w' := by
  refine (Any.strings_Trim_laid laysTrim (by kernel_rfl) s ⟨#[97, 98, 99, 100, 101, 102, 103, 104, 105, 106, 107, 108, 109, 110, 111, 112, 113, 114, 115, 116, 117, 118, 119, 120, 121, 122]⟩ w (by omega) (by decide) (ascii_of_all (by decide))).mono ?_
  rintro e w' ⟨rfl, b⟩
  have key := trim_all s.data.toList azL
  have e0 : (s.data.toList.all fun x => azL.contains x) = s.data.toList.all lowB := by congr 1; funext x; exact az_low x
  rw [e0] at key
  obtain ⟨q, hq⟩ : ∃ q, Lib.trimS s.data.toList azL = q := ⟨_, rfl⟩
  rw [hq] at key
  refine ⟨⟨q.toArray⟩, by rw [← hq]; rfl, fun h => ?_, fun h => ?_, b⟩
  · rw [h, List.isEmpty_iff] at key
    rw [key]
  · rw [h] at key
    intro e
    have e2 : q = [] := by simpa using e
    rw [e2] at key
    simp at key

set_option maxHeartbeats 1000000 in
theorem isName_any (s : ByteArray) (w : World) (hs : s.size ≤ 16777216) :
    Calls Tryd.prog 99 #[.string s] w fun e w' => e = .returned (.bool (nameOk s)) ∧ Below w.heap.size w w' := by
  by_cases h1 : 1 ≤ s.size
  · by_cases h2 : s.size ≤ 6
    · have i1 : (1 : Int) ≤ (s.size : Int) := by omega
      have i2 : (s.size : Int) ≤ 6 := by omega
      go_enter Tryd.func99, Tryd.ntmps99
      go_wp2_with fail
      refine (trimAz_any s _ hs).mono ?_
      rintro e w1 ⟨t, rfl, ht1, ht2, b1⟩
      have HB := Lib.hid b1
      clear b1
      cases hb : s.data.toList.all lowB with
      | true =>
        have HF : Hid (nameOk s = true) := by show _ = _; rw [nameOk, hb, decide_eq_true ⟨h1, h2⟩]; rfl
        obtain rfl := ht1 hb
        clear ht1 ht2 hb
        go_wp2_with fail
        go_ret
        exact ⟨retBl (by rw [HF.out]), HB.out⟩
      | false =>
        have HF : Hid (nameOk s = false) := by show _ = _; rw [nameOk, hb]; rfl
        have hq := ht2 hb
        have hq2 : ¬ t.toList = [] := fun e => hq (by rw [← toList_data]; exact e)
        clear ht1 ht2 hb
        go_wp2_with fail
        go_ret
        exact ⟨retBl (by rw [HF.out]; simpa using hq2), HB.out⟩
    · have HF : Hid (nameOk s = false) := by show _ = _; rw [nameOk, decide_eq_false (fun h => h2 h.2), Bool.and_false]
      have i2 : ¬ (s.size : Int) ≤ 6 := by omega
      have i1 : (1 : Int) ≤ (s.size : Int) := by omega
      go_enter Tryd.func99, Tryd.ntmps99
      go_wp2_with fail
      go_ret
      exact ⟨retBl (by rw [HF.out]), Below.refl _ _⟩
  · have HF : Hid (nameOk s = false) := by show _ = _; rw [nameOk, decide_eq_false (fun h => h1 h.1), Bool.and_false]
    have i1 : ¬ (1 : Int) ≤ (s.size : Int) := by omega
    go_enter Tryd.func99, Tryd.ntmps99
    go_wp2_with fail
    go_ret
    exact ⟨retBl (by rw [HF.out]), Below.refl _ _⟩

end Go.Proofs.YtcbofogmfelpkaaDoor
