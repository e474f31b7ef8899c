/- The program's test of names: each is given before it is used, and none twice (areNamesGiven). For lists of at most 1048576 lines. -/
import Derived.Test.YtcbofogmfelpkaaDoorLnI8
namespace Go.Proofs.YtcbofogmfelpkaaDoor
open Go Go.RowKit Go.Maps
set_option maxRecDepth 100000

/-- The names that lines give. -/
def givenB (ls : List Ln) (s : ByteArray) : Bool := ls.any (gives s)
def lineNames (pre : List Ln) (x : Ln) : Bool := !(givenB pre x.name || !(x.parts.all (givenB pre)))
def namesGiven (ls : List Ln) : Bool := (List.range ls.length).all fun k => lineNames (ls.take k) (lnAt ls k)
theorem take_next {ls : List Ln} {k : Nat} (hk : k < ls.length) : ls.take (k + 1) = ls.take k ++ [lnAt ls k] := by
  rw [List.take_add_one, List.getElem?_eq_getElem hk, Option.toList_some]
  simp [lnAt, List.getD_eq_getElem?_getD, List.getElem?_eq_getElem hk]
theorem given_next {ls : List Ln} {k : Nat} (hk : k < ls.length) (s : ByteArray) : givenB (ls.take (k + 1)) s = (givenB (ls.take k) s || gives s (lnAt ls k)) := by
  rw [givenB, take_next hk, List.any_append]; simp [givenB]
theorem allS_no {p : ByteArray → Bool} {ts : List ByteArray} {k : Nat} (hk : k < ts.length) (h : p (wordAt ts k) = false) : ts.all p = false := by
  rw [List.all_eq_false]
  refine ⟨ts[k], List.getElem_mem hk, ?_⟩
  have e : wordAt ts k = ts[k] := by simp [wordAt, List.getD_eq_getElem?_getD, List.getElem?_eq_getElem hk]
  rw [← e, h]; simp
theorem allS_yes {p : ByteArray → Bool} {ts : List ByteArray} (h : ∀ k, k < ts.length → p (wordAt ts k) = true) : ts.all p = true := by
  rw [List.all_eq_true]
  intro x hx
  obtain ⟨k, hk, rfl⟩ := List.getElem_of_mem hx
  have e : wordAt ts k = ts[k] := by simp [wordAt, List.getD_eq_getElem?_getD, List.getElem?_eq_getElem hk]
  rw [← e]
  exact h k hk

set_option maxHeartbeats 1000000 in
/-- The closure that areNamesGiven hands to the library: is a name not yet given? -/
theorem given1_any (q b k : Nat) (f : ByteArray → Bool) (s : ByteArray) (w : World) (hq : w.cell? ⟨q, 0, none⟩ = some (.map (some b))) (h : SetS w b k f) (hs : s.size ≤ maxLen) :
    Calls Tryd.prog 81 #[.string s, .pointer (some ⟨q, 0, none⟩)] w fun e w' => e = .returned (.bool (!f s)) ∧ w = w' := by
  have HS := Lib.hid h
  have HZ := Lib.hid hs
  clear h hs
  go_enter Tryd.func81, Tryd.ntmps81
  go_wp2_with (at_lookup; refine SetS.look rfl (.tmp 4) (.tmp 5) rfl rfl HS.out s rfl HZ.out ?_)
  go_ret
  exact ⟨rfl, rfl⟩

set_option maxHeartbeats 2000000 in
theorem givenIdx_any (q b kk : Nat) (f : ByteArray → Bool) (P : Option Addr) (m d : Nat) (ps : List ByteArray) (r : Bool) (w : World) (hq : w.cell? ⟨q, 0, none⟩ = some (.map (some b))) (h : SetS w b kk f) (hp : HasS w P m ps) (hm : m ≤ 16777216) (hs : ∀ j, j < m → (wordAt ps j).size ≤ maxLen) (hr : ps.all f = r) :
    Calls Tryd.prog 102 #[.slice P m d, .func (.func 81) #[] #[.pointer (some ⟨q, 0, none⟩)]] w fun e w' => ∃ j : Int, e = .returned (.int .i64 j) ∧ decide (0 ≤ j) = (!r) ∧ w = w' := by
  have HS := Lib.hid h
  have HP := Lib.hid hp
  have HL : Hid (ps.length = m) := hp.1
  have HZ := Lib.hid hs
  have HR := Lib.hid hr
  have HQ := Lib.hid hq
  clear h hp hs hr hq
  go_enter Tryd.func102, Tryd.ntmps102
  go_wp2_with fail
  go_loopw [8] (fun i wr => ∃ k : Nat, k ≤ m ∧ i = .int .i64 k ∧ Hid (∀ j, j < k → f (wordAt ps j) = true) ∧ w = wr) (fun i _ => m - (intOf i).toNat)
  case atStart => exact ⟨0, Nat.zero_le _, rfl, fun j hj => absurd hj (by omega), rfl⟩
  case round =>
    obtain ⟨k, hk, rfl, HN, rfl⟩ := hrel
    by_cases hlt : k < m
    · obtain ⟨ad, rfl, hc⟩ := (HP.out).elem hlt
      obtain ⟨s, hs⟩ : ∃ s, wordAt ps k = s := ⟨_, rfl⟩
      rw [hs] at hc
      have hz := HZ.out k hlt
      rw [hs] at hz
      have HC := Lib.hid (given1_any q b kk f s w HQ.out HS.out hz)
      have HW := Lib.hid hs
      have q0 : (0 : Int) ≤ (k : Int) := by omega
      have q1 : (k : Int) < (m : Int) := by omega
      obtain ⟨y, hy⟩ : ∃ y, f s = y := ⟨_, rfl⟩
      rw [hy] at HC
      have HY := Lib.hid hy
      clear hs hz hy
      cases y with
      | false =>
        have e : r = false := by rw [← HR.out]; exact allS_no (by rw [HL.out]; exact hlt) (by rw [HW.out]; exact HY.out)
        subst e
        go_wp2_with fail
        refine (HC.out).mono ?_
        rintro e w2 ⟨rfl, rfl⟩
        go_wp2_with fail
        go_ret
        exact ⟨(k : Int), rfl, by simp, rfl⟩
      | true =>
        have HN2 : Hid (∀ j, j < k + 1 → f (wordAt ps j) = true) := fun j hj => by
          by_cases e : j = k
          · rw [e, HW.out]; exact HY.out
          · exact HN.out j (by omega)
        go_wp2_with fail
        refine (HC.out).mono ?_
        rintro e w2 ⟨rfl, rfl⟩
        go_wp2_with fail
        go_roundw
        case rel => exact ⟨k + 1, by omega, by go_num, HN2, by first | rfl | trivial⟩
        case measure => simp [intOf]; omega
    · have e : r = true := by rw [← HR.out]; exact allS_yes (fun j hj => HN.out j (by have := HL.out; omega))
      subst e
      go_wp2_with fail
      go_ret
      exact ⟨-1, rfl, rfl, rfl⟩

set_option maxHeartbeats 1000000 in
theorem givenAny_any (q b kk : Nat) (f : ByteArray → Bool) (P : Option Addr) (m d : Nat) (ps : List ByteArray) (r : Bool) (w : World) (hq : w.cell? ⟨q, 0, none⟩ = some (.map (some b))) (h : SetS w b kk f) (hp : HasS w P m ps) (hm : m ≤ 16777216) (hs : ∀ j, j < m → (wordAt ps j).size ≤ maxLen) (hr : ps.all f = r) :
    Calls Tryd.prog 80 #[.slice P m d, .func (.func 81) #[] #[.pointer (some ⟨q, 0, none⟩)]] w fun e w' => e = .returned (.bool (!r)) ∧ w = w' := by
  have HI := Lib.hid (givenIdx_any q b kk f P m d ps r w hq h hp hm hs hr)
  clear hq h hp hs hr
  go_enter Tryd.func80, Tryd.ntmps80
  go_wp2_with fail
  refine (HI.out).mono ?_
  rintro e w2 ⟨j, rfl, hj, rfl⟩
  have HJ := Lib.hid hj
  clear hj
  go_wp2_with fail
  go_ret
  exact ⟨by rw [← HJ.out]; rfl, rfl⟩

end Go.Proofs.YtcbofogmfelpkaaDoor
