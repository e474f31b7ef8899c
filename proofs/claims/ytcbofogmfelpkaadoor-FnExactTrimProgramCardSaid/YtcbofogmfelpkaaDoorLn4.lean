/- The marks that the exact laws write into strings and lines of programs, and whether they are still there. For lists of at most 1048576 elements. -/
import Derived.Test.YtcbofogmfelpkaaDoorLn3
import Derived.Deep.RegionWith
namespace Go.Proofs.YtcbofogmfelpkaaDoor
open Go Go.RowKit
set_option maxRecDepth 100000

/-- The digits of a number above 0. -/
def digL (n : Nat) : List Int := if n = 0 then [] else digL (n / 10) ++ [48 + ((n % 10 : Nat) : Int)]
termination_by n
decreasing_by omega
theorem digL_zero : digL 0 = [] := by rw [digL, if_pos rfl]
theorem digL_pos {n : Nat} (h : 0 < n) : digL n = digL (n / 10) ++ [48 + ((n % 10 : Nat) : Int)] := by rw [digL, if_neg (by omega)]
theorem digL_length : ∀ (j n : Nat), n < 10 ^ j → (digL n).length ≤ j
  | 0, n, h => by
    obtain rfl : n = 0 := by simpa using h
    rw [digL_zero]; simp
  | j + 1, n, h => by
    by_cases c : n = 0
    · rw [c, digL_zero]; simp
    · rw [digL_pos (by omega), List.length_append]
      have := digL_length j (n / 10) (by rw [Nat.pow_succ] at h; omega)
      simp; omega
theorem strApp (xs ys : List Int) : strOfNums xs ++ strOfNums ys = strOfNums (xs ++ ys) := by
  apply ByteArray.ext
  simp [strOfNums]
/-- The text of a mark. -/
def mtx (k : Int) : ByteArray := strOfNums (109 :: digL k.toNat)

set_option maxRecDepth 100000 in
set_option maxHeartbeats 2000000 in
theorem markText_any (n : Nat) (w : World) (h0 : 0 < n) (hn : n ≤ 1000000000000) :
    Calls Tryd.prog 60 #[.int .i64 (n : Int)] w fun e w' => ∃ t, e = .returned (.string t) ∧ Hid (t = mtx (n : Int)) ∧ Below w.heap.size w w' := by
  have hl := digL_length 13 n (by omega)
  have HL := Lib.hid hl
  have h0i : (0 : Int) < (n : Int) := by omega
  have HI : Hid (digL n = digL n ++ []) := by show _ = _; simp
  have HE : Hid ((⟨#[]⟩ : ByteArray) = strOfNums []) := rfl
  clear hl
  go_enter Tryd.func60, Tryd.ntmps60
  go_wp2_with fail
  go_loopw [0, 3] (fun q v wr => ∃ (k : Nat) (t : ByteArray) (ds : List Int), k ≤ n ∧ q = .int .i64 (k : Int) ∧ v = .string t ∧ Hid (digL n = digL k ++ ds) ∧ Hid (t = strOfNums ds) ∧ t.size ≤ 13 ∧ Below w.heap.size w wr) (fun q _ _ => (intOf q).toNat)
  case atStart => exact ⟨n, _, [], Nat.le_refl _, rfl, rfl, HI, HE, by decide, Below.refl _ _⟩
  case round =>
    obtain ⟨k, t, ds, hk, rfl, rfl, HD, HT, hts, bk⟩ := hrel
    by_cases hlt : 0 < k
    · obtain ⟨m, hm⟩ : ∃ m : Nat, k / 10 = m := ⟨_, rfl⟩
      obtain ⟨d, hd⟩ : ∃ d : Nat, k % 10 = d := ⟨_, rfl⟩
      have d9 : d ≤ 9 := by omega
      have HD2 : Hid (digL n = digL m ++ (48 + (d : Int)) :: ds) := by
        show _ = _
        rw [HD.out, digL_pos hlt, hm, hd]
        simp
      have hq : (k : Int).tdiv 10 = (m : Int) := by rw [Int.tdiv_eq_ediv_of_nonneg (by omega)]; omega
      have hr : (k : Int).tmod 10 = (d : Int) := by rw [Int.tmod_eq_emod_of_nonneg (by omega)]; omega
      have hq2 : (k : Int) / 10 = (m : Int) := by omega
      have hr2 : (k : Int) % 10 = (d : Int) := by omega
      have hmk : m < k := by omega
      have hw8 : IntKind.u8.wrap (48 + (d : Int)) = 48 + (d : Int) := by
        have : d = 0 ∨ d = 1 ∨ d = 2 ∨ d = 3 ∨ d = 4 ∨ d = 5 ∨ d = 6 ∨ d = 7 ∨ d = 8 ∨ d = 9 := by omega
        rcases this with e | e | e | e | e | e | e | e | e | e <;> rw [e] <;> decide
      have hwd : IntKind.i64.wrap (d : Int) = (d : Int) := wrapIn (by omega) (by omega)
      have hwe : IntKind.i64.wrap (48 + (d : Int)) = 48 + (d : Int) := wrapIn (by omega) (by omega)
      have hcv := run_convert_bytes_arg (P := Tryd.prog) (wr.alloc (.cells #[.int .u8 (48 + (d : Int))] 5)) 89 5 Tryd.underlying89 Tryd.underlying5 wr.heap.size 0 1 1 [48 + (d : Int)] rfl
        (fun i hi => by obtain rfl : i = 0 := by omega
                        simp) 9 Tryd.underlying9
      obtain ⟨t2, ht2⟩ : ∃ t2, t2 = strOfNums [48 + (d : Int)] := ⟨_, rfl⟩
      rw [← ht2] at hcv
      have hs2 : t2.size = 1 := by rw [ht2, strOfNums_size]; simp
      have HT2 : Hid (t2 ++ t = strOfNums ((48 + (d : Int)) :: ds)) := by
        show _ = _
        rw [ht2, HT.out, strApp]
        simp
      have hsz : (t2 ++ t).size ≤ 13 := by
        have h1 := congrArg List.length HD2.out
        have h2 := HL.out
        rw [HT2.out, strOfNums_size]
        rw [List.length_append] at h1
        omega
      have k0 : (0 : Int) < (k : Int) := by omega
      have bn := belowNew wr (.cells #[.int .u8 (48 + (d : Int))] 5)
      have hs3 : t2.size ≤ 1 := by omega
      clear hm hd hs2 ht2
      go_wp2_with fail
      go_roundw
      case rel => exact ⟨m, t2 ++ t, _, by omega, by first | rfl | go_num, rfl, HD2, HT2, hsz, bk.trans (bn.mono bk.size)⟩
      case measure => simp [intOf]; omega
    · obtain rfl : k = 0 := by omega
      have HR : Hid ((⟨#[109]⟩ : ByteArray) ++ t = mtx (n : Int)) := by
        show _ = _
        have e := HD.out
        rw [digL_zero, List.nil_append] at e
        rw [mtx, Int.toNat_natCast, e, HT.out]
        have e2 : (⟨#[109]⟩ : ByteArray) = strOfNums [109] := rfl
        rw [e2, strApp]
        rfl
      go_wp2_with fail
      go_ret
      exact ⟨_, rfl, HR, bk⟩

/-- The marks m, m + 1, .. as texts. -/
def smarks (m : Int) (n : Nat) : List ByteArray := (List.range n).map fun (j : Nat) => mtx (m + (j : Int))
theorem smarks_length (m : Int) (n : Nat) : (smarks m n).length = n := by simp [smarks]
theorem smarks_at (m : Int) (n k : Nat) (h : k < n) : wordAt (smarks m n) k = mtx (m + (k : Int)) := by
  simp [smarks, wordAt, h]
theorem smarks_val (m : Int) (n k : Nat) (h : k < n) : ((smarks m n).map Value.string)[k]? = some (.string (mtx (m + (k : Int)))) := by
  simp [smarks, h]

set_option maxRecDepth 100000 in
set_option maxHeartbeats 2000000 in
theorem markStringS_any (A : Option Addr) (B n c m : Nat) (ts : List ByteArray) (w : World) (h : Strs w B (.slice A n c) n ts) (hn : n ≤ 16777216) (hm0 : 0 < m) (hm1 : m ≤ 100000000000) :
    Calls Tryd.prog 35 #[.slice A n c, .int .i64 (m : Int)] w fun e w' => e = .returned (.int .i64 ((m + n : Nat) : Int)) ∧ Strs w' B (.slice A n c) n (smarks (m : Int) n) ∧ w.grownBy w' (blockOf A) := by
  have HL : Hid (ts.length = n) := h.1
  obtain ⟨h1, h2⟩ := h
  clear h1
  go_enter Tryd.func35, Tryd.ntmps35
  go_wp2_with fail
  go_loopw [1, 5] (fun q i wr => ∃ (k : Nat) (xs : List Value), k ≤ n ∧ i = .int .i64 k ∧ q = .int .i64 ((m + k : Nat) : Int) ∧ wr.ownsRow B 9 1 (.slice A n c) n xs ∧ (∀ j, j < k → xs[j]? = some (.string (mtx ((m : Int) + (j : Int))))) ∧ w.grownBy wr (blockOf A)) (fun _ i _ => n - (intOf i).toNat)
  case atStart => exact ⟨0, _, Nat.zero_le _, rfl, rfl, h2, fun j hj => absurd hj (Nat.not_lt_zero _), World.grownBy.refl _ _⟩
  case round =>
    obtain ⟨k, xs, hk, rfl, rfl, ho, hxs, hgk⟩ := hrel
    by_cases hlt : k < n
    · obtain ⟨g, cap, hv, _, hgl⟩ := ho.form (by omega)
      obtain rfl : A = some ⟨g, 0, none⟩ := by injection hv
      have HX := Lib.hid hxs
      have k0 : (0 : Int) ≤ (k : Int) := by omega
      have k1 : (k : Int) < (n : Int) := by omega
      have hw1 : IntKind.i64.wrap (((m + k : Nat) : Int) + 1) = ((m + (k + 1) : Nat) : Int) := by rw [wrapIn (by omega) (by omega)]; omega
      have HMt := Lib.hid (markText_any (m + k) wr (by omega) (by omega))
      clear hxs hv
      go_wp2_with fail
      refine (HMt.out).mono ?_
      rintro e w2 ⟨t, rfl, HT, b2⟩
      have ho2 := ho.kept (grownOf b2 none) (.inr (fun e => by cases e))
      have hl2 : xs.length = n := by simpa using ho2.1
      have hu : w2.cell? ⟨g, k, none⟩ = some (xs[k]'(by omega)) := by rw [ho2.cellAt k (by omega)]; exact List.getElem?_eq_getElem _
      have hfr := ho2.frozenAt k
      have HO2 := Lib.hid ho2
      have HG2 : Hid (w.grownBy w2 (some g)) := ⟨b2.os.trans hgk.os, b2.tape.trans hgk.tape, b2.output.trans hgk.output, Nat.le_trans hgk.size b2.size, fun i hi hne => (b2.block i (Nat.lt_of_lt_of_le hi hgk.size)).trans (hgk.block i hi hne)⟩
      have HL2 := Lib.hid hl2
      generalize xs[k] = u at hu
      clear HMt ho ho2 hl2 hgk
      go_wp2_with fail
      go_roundw
      case rel =>
        refine ⟨k + 1, _, by omega, by go_num, rfl, (HO2.out.stored k (.string t)).1, fun j hj => ?_, grown_setCell HG2.out _ _⟩
        by_cases e : j = k
        · subst e
          rw [List.getElem?_set_self (by rw [HL2.out]; exact hlt), HT.out]
          rw [Int.natCast_add]
        · rw [List.getElem?_set_ne (by omega)]
          exact HX.out j (by omega)
      case measure => simp [intOf]; omega
    · obtain rfl : k = n := by omega
      have HX := Lib.hid hxs
      clear hxs
      go_wp2_with fail
      go_ret
      refine ⟨rfl, ⟨smarks_length _ _, ?_⟩, hgk⟩
      have hl : xs.length = k := by simpa using ho.1
      have e : xs = (smarks (m : Int) k).map Value.string := by
        apply List.ext_getElem?
        intro j
        by_cases hj : j < k
        · rw [HX.out j hj, smarks_val _ _ _ hj]
        · rw [List.getElem?_eq_none (by omega), List.getElem?_eq_none (by rw [List.length_map, smarks_length]; omega)]
      rw [← e]
      exact ho

end Go.Proofs.YtcbofogmfelpkaaDoor
