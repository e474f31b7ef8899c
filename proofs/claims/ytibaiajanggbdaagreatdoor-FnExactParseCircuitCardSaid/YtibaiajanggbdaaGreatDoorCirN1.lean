/- What the model's decimal text of a number is. For every number up to 1000000. -/
import Derived.Test.YtibaiajanggbdaaGreatDoorBitsAll
import Derived.Test.YtibaiajanggbdaaGreatDoorGen1
import Derived.Test.YtibaiajanggbdaaGreatDoorCirAll
import Derived.Deep.RegionWith
namespace Go.Proofs.YtibaiajanggbdaaGreatDoor
open Go.RowKit
set_option maxRecDepth 100000

/-- The numbers of the characters of a number's decimal text. -/
def numL (n : Nat) : List Int := if n < 10 then [48 + (n : Int)] else numL (n / 10) ++ [48 + ((n % 10 : Nat) : Int)]
termination_by n
decreasing_by omega
theorem numL_small {n : Nat} (h : n < 10) : numL n = [48 + (n : Int)] := by rw [numL, if_pos h]
theorem numL_big {n : Nat} (h : ¬ n < 10) : numL n = numL (n / 10) ++ [48 + ((n % 10 : Nat) : Int)] := by rw [numL, if_neg h]
theorem numL_length : ∀ (k n : Nat), n < 10 ^ (k + 1) → (numL n).length ≤ k + 1
  | 0, n, h => by rw [numL_small (by simpa using h)]; simp
  | k + 1, n, h => by
    by_cases c : n < 10
    · rw [numL_small c]; simp
    · rw [numL_big c, List.length_append]
      have := numL_length k (n / 10) (by rw [Nat.pow_succ] at h; omega)
      simp; omega

set_option maxRecDepth 100000 in
set_option maxHeartbeats 2000000 in
theorem l1Num_any (n : Nat) : ∀ (w : World), n ≤ 1000000 →
    Calls Tryz.prog 96 #[.int .i64 (n : Int)] w fun e w' => ∃ t, e = .returned (.string t) ∧ Hid (t = strOfNums (numL n)) ∧ t.size ≤ 7 ∧ Below w.heap.size w w' := by
  induction n using Nat.strongRecOn with
  | ind n ih =>
    intro w hn
    have hlen := numL_length 6 n (by omega)
    by_cases h9 : n < 10
    · refine (l1Num_small (n : Int) w (by omega) (by omega)).mono ?_
      rintro e w' ⟨t, rfl, HT, ht, b⟩
      exact ⟨t, rfl, by show _ = _; rw [numL_small h9]; exact HT.out, by omega, b⟩
    · have IH := ih (n / 10) (by omega)
      have hnum := numL_big h9
      have hlen' := numL_length 6 (n / 10) (by omega)
      obtain ⟨m, hm⟩ : ∃ m : Nat, n / 10 = m := ⟨_, rfl⟩
      obtain ⟨d, hd⟩ : ∃ d : Nat, n % 10 = d := ⟨_, rfl⟩
      have d9 : d ≤ 9 := by omega
      rw [hm] at IH hnum hlen'
      rw [hd] at hnum
      have hq : (n : Int).tdiv 10 = (m : Int) := by rw [Int.tdiv_eq_ediv_of_nonneg (by omega)]; omega
      have hr : (n : Int).tmod 10 = (d : Int) := by rw [Int.tmod_eq_emod_of_nonneg (by omega)]; omega
      have hq2 : (n : Int) / 10 = (m : Int) := by omega
      have hr2 : (n : Int) % 10 = (d : Int) := by omega
      have m6 : m ≤ 1000000 := by omega
      have hw8 : IntKind.u8.wrap (48 + (d : Int)) = 48 + (d : Int) := by
        have : d = 0 ∨ d = 1 ∨ d = 2 ∨ d = 3 ∨ d = 4 ∨ d = 5 ∨ d = 6 ∨ d = 7 ∨ d = 8 ∨ d = 9 := by omega
        rcases this with e | e | e | e | e | e | e | e | e | e <;> rw [e] <;> decide
      have hwm : IntKind.i64.wrap (m : Int) = (m : Int) := wrapIn (by omega) (by omega)
      have hwd : IntKind.i64.wrap (d : Int) = (d : Int) := wrapIn (by omega) (by omega)
      have hwe : IntKind.i64.wrap (48 + (d : Int)) = 48 + (d : Int) := wrapIn (by omega) (by omega)
      have h9i : (10 : Int) ≤ (n : Int) := by omega
      have hcv : ∀ (W : World) (q : Nat), W.cell? ⟨q, 0, none⟩ = some (.int .u8 (48 + (d : Int))) → _ := fun W q hc => run_convert_bytes_arg (P := Tryz.prog) W 22 5 Tryz.underlying22 Tryz.underlying5 q 0 1 1 [48 + (d : Int)] rfl (fun i hi => by have e : i = 0 := (by omega); subst e; simpa using hc) 9 Tryz.underlying9
      obtain ⟨t2, ht2⟩ : ∃ t2, strOfNums [48 + (d : Int)] = t2 := ⟨_, rfl⟩
      rw [ht2] at hcv
      have hs2 : t2.size ≤ 1 := by rw [← ht2, strOfNums_size]; simp
      have H2 := Lib.hid ht2
      have y0 := Blk.new w #[.int .u8 (48 + (d : Int))] 5
      have h0 := hcv (w.alloc (.cells #[.int .u8 (48 + (d : Int))] 5)).drew w.heap.size (y0.cell (i := 0) rfl)
      have HN := Lib.hid hnum
      have HH := Lib.hid (fun w => IH w m6)
      have HC := Lib.hid hcv
      have HLn := Lib.hid hlen
      clear ih IH hnum hm hd hcv h9 hlen ht2
      go_enter Tryz.func96, Tryz.ntmps96
      go_wp2_with fail
      go_region_with (first | (go_at_call 96; refine (HH.out _).mono ?_; rintro e w3 ⟨t, rfl, HT, hts, b3⟩; have hB := HC.out (w3.alloc (.cells #[.int .u8 (48 + (d : Int))] 5)) w3.heap.size ((Blk.new w3 #[.int .u8 (48 + (d : Int))] 5).cell (i := 0) rfl); first | (have hA := HC.out w3 w.heap.size (((show Blk (w.alloc (.cells #[.int .u8 (48 + (d : Int))] 5)).drew w.heap.size #[.int .u8 (48 + (d : Int))] 5 from y0).below' b3).cell (i := 0) rfl); have hZ : Below w.heap.size w w3 := ((belowNew w (.cells #[.int .u8 (48 + (d : Int))] 5)).drew).trans (b3.mono (belowNew w (.cells #[.int .u8 (48 + (d : Int))] 5)).size)) | (have hZ : Below w.heap.size w w3 := ((Below.refl _ w).drew).trans b3)))
      all_goals
        have HE : Hid (t ++ t2 = strOfNums (numL n)) := by show _ = _; rw [HN.out, ← strOf_append, HT.out, H2.out]
        have hsz : (t ++ t2).size ≤ 7 := by rw [HE.out, strOfNums_size]; exact HLn.out
        go_wp2_with fail
        go_ret
        first
          | exact ⟨t ++ t2, rfl, HE, hsz, hZ.trans ((belowNew w3 _).mono hZ.size)⟩
          | exact ⟨t ++ t2, rfl, HE, hsz, hZ⟩

end Go.Proofs.YtibaiajanggbdaaGreatDoor
