/- The program's test of a line by itself (isLine). For names of at most 16777216 bytes. The forms of the lines and the words of the operations are as start-up lays them. -/
import Derived.Test.YtcbofogmfelpkaaDoorLnI2
import Derived.Test.YtcbofogmfelpkaaDoorGen1
import Derived.Deep.RegionHeld3
import Derived.Deep.RegionLaw
import Derived.Deep.QuietTactic
import Derived.BigQuiet
import Derived.Deep.CutBlock
import Derived.Deep.DeepCutAuto
namespace Go.Proofs.YtcbofogmfelpkaaDoor
open Go Go.RowKit Go.Shelf
set_option maxRecDepth 100000

def formB (k : Nat) : ByteArray := match k with
  | 1 => ⟨#[105, 110, 112, 117, 116]⟩ | 2 => ⟨#[99, 111, 110, 115, 116]⟩ | 3 => ⟨#[108, 101, 116]⟩ | 4 => ⟨#[110, 111, 116]⟩ | 5 => ⟨#[112, 105, 99, 107]⟩ | 6 => ⟨#[111, 117, 116]⟩ | _ => ByteArray.empty
def formW (k : Nat) : Int := match k with
  | 1 => 4 | 2 => 4 | 3 => 5 | 4 => 3 | 5 => 5 | 6 => 2 | _ => 0
/-- The program's forms of the kinds of lines lie where start-up lays them. -/
def Forms (w : World) : Prop := ∀ k, k < 7 → w.cell? ⟨1, k * 3, none⟩ = some (.string (formB k)) ∧ w.cell? ⟨1, k * 3 + 1, none⟩ = some (.int .i64 (formW k)) ∧ w.cell? ⟨1, k * 3 + 2, none⟩ = some (.int .i64 (partsK (k : Int)))
theorem Forms.below {w w' : World} (h : Forms w) (hb : Below w.heap.size w w') : Forms w' := fun k hk => by
  have h1 := h k hk
  have hlt := World.block_lt_of_cell? w _ h1.1
  have e : w'.heap[1]? = w.heap[1]? := hb.block _ hlt
  exact ⟨(World.cell?_of_block e).trans h1.1, (World.cell?_of_block e).trans h1.2.1, (World.cell?_of_block e).trans h1.2.2⟩

/-- The fields of a line are as its kind requires. -/
def kindOk (kd : Int) (nm o : ByteArray) (py wd vl : Int) : Bool :=
  if kd = 1 then nameOk nm && (same o ByteArray.empty && ((decide (0 ≤ py) && decide (py < 2)) && ((decide (1 ≤ wd) && decide (wd ≤ 10)) && decide (vl = 0))))
  else if kd = 2 then nameOk nm && (same o ByteArray.empty && (decide (py = 0) && ((decide (1 ≤ wd) && decide (wd ≤ 10)) && (decide (0 ≤ vl) && decide (vl < 2 ^ wd.toNat)))))
  else if kd = 3 then nameOk nm && (decide (opIx o ≠ 8) && plainL py wd vl)
  else if kd = 4 ∨ kd = 5 then nameOk nm && (same o ByteArray.empty && plainL py wd vl)
  else if kd = 6 then same nm ByteArray.empty && (same o ByteArray.empty && plainL py wd vl)
  else false
theorem same_no {a b : ByteArray} (h : ¬ a = b) : same a b = false := by
  cases e : same a b
  · rfl
  · exact absurd ((same_iff _ _).1 e) h
theorem same_refl' (a : ByteArray) : same a a = true := (same_iff _ _).2 rfl
theorem emptyB : (⟨#[]⟩ : ByteArray) = ByteArray.empty := rfl
theorem toList_ne {a b : ByteArray} (h : ¬ a = b) : ¬ a.toList = b.toList := fun e => h (by rw [toList_data, toList_data] at e; exact ByteArray.ext (Array.toList_inj.1 e))
theorem empty_ne {a : ByteArray} (h : ¬ a = ⟨#[]⟩) : ¬ a.toList = [] := fun e => h (by rw [toList_data] at e; exact ByteArray.ext (Array.toList_inj.1 (by simpa using e)))

set_option maxRecDepth 100000 in
set_option maxHeartbeats 4000000 in
theorem isLine_1 (nm o : ByteArray) (P : Option Addr) (d : Nat) (py wd vl : Int) (w : World) (hs : nm.size ≤ 16777216) (hF : Forms w) :
    Calls Tryd.prog 79 #[.agg #[.int .i64 1, .string nm, .string o, .slice P 0 d, .int .i64 py, .int .i64 wd, .int .i64 vl]] w fun e w' => e = .returned (.bool (kindOk 1 nm o py wd vl)) ∧ Below w.heap.size w w' := by
  have b1 := belowNew w (.cells #[.int .i64 1, .string nm, .string o, .slice P 0 d, .int .i64 py, .int .i64 wd, .int .i64 vl] 53)
  have y1 := Blk.new w #[.int .i64 1, .string nm, .string o, .slice P 0 d, .int .i64 py, .int .i64 wd, .int .i64 vl] 53
  have gf : w.cell? ⟨1, 5, none⟩ = some (.int .i64 0) := by have h := hF 1 (by omega); exact h.2.2
  have gl : 1 < w.heap.size := World.block_lt_of_cell? w _ gf
  have gf1 : (w.alloc (.cells #[.int .i64 1, .string nm, .string o, .slice P 0 d, .int .i64 py, .int .i64 wd, .int .i64 vl] 53)).cell? ⟨1, 5, none⟩ = some (.int .i64 0) := by have h := hF.below b1 1 (by omega); exact h.2.2
  obtain ⟨W1, hW1⟩ : ∃ W, W = w.alloc (.cells #[.int .i64 1, .string nm, .string o, .slice P 0 d, .int .i64 py, .int .i64 wd, .int .i64 vl] 53) := ⟨_, rfl⟩
  rw [← hW1] at b1 y1 gf1
  have s1 := b1.size
  have HK : Hid (∀ W', Below W1.heap.size W1 W' → W'.cell? ⟨w.heap.size, 0, none⟩ = some (.int .i64 1) ∧ W'.cell? ⟨w.heap.size, 1, none⟩ = some (.string nm) ∧ W'.cell? ⟨w.heap.size, 2, none⟩ = some (.string o) ∧ W'.cell? ⟨w.heap.size, 3, none⟩ = some (.slice P 0 d) ∧ W'.cell? ⟨w.heap.size, 4, none⟩ = some (.int .i64 py) ∧ W'.cell? ⟨w.heap.size, 5, none⟩ = some (.int .i64 wd) ∧ W'.cell? ⟨w.heap.size, 6, none⟩ = some (.int .i64 vl)) :=
    fun W' hb => (y1.below' hb).seven.1
  have HI : Hid (∀ (q l : Int) (b : Bool) (W : World), (decide (0 ≤ q) && decide (q < l)) = b → Calls Tryd.prog 58 #[.int .i64 q, .int .i64 l] W fun e w' => e = .returned (.bool b) ∧ w' = W) :=
    fun q l b W h => (isBelowL_any q l b W h).mono fun _ _ ⟨h1, h2⟩ => ⟨h1, h2.symm⟩
  have HN : Hid (∀ W, Calls Tryd.prog 99 #[.string nm] W fun e w' => e = .returned (.bool (nameOk nm)) ∧ Below W.heap.size W w') := fun W => isName_any nm W hs
  have HB1 := Lib.hid b1
  obtain ⟨⟨k0, k1, k2, k3, k4, k5, k6⟩, _⟩ := y1.seven
  clear hs hF y1 gf b1
  go_enter Tryd.func79, Tryd.ntmps79
  go_upto_region 1 with fail
  rw [← hW1]
  clear hW1
  go_cut [17] (fun v wx => v = .bool false ∧ Below W1.heap.size W1 wx)
  case first =>
    go_quiet ((go_at_call 58; exact Calls.quiet_of_same (HI.out _ _ true _ (by decide))))
    go_wp2_with fail
    go_meet
    exact ⟨rfl, below_drewN (Below.refl _ _) _⟩
  case rest =>
  obtain ⟨rfl, B2⟩ := hcut
  obtain ⟨w2, rfl⟩ : ∃ x, x = wc := ⟨_, rfl⟩
  clear k0 k1 k2 k3 k4 k5 k6 gf1
  obtain ⟨k0, k1, k2, k3, k4, k5, k6⟩ := HK.out _ B2
  have BT : Hid (Below w.heap.size w w2) := HB1.out.trans (B2.mono s1)
  go_wp2_with fail
  refine (HN.out _).mono ?_
  rintro e w3 ⟨rfl, b3⟩
  have B3 := B2.trans (b3.mono B2.size)
  have BT3 := Lib.hid (HB1.out.trans (B3.mono s1))
  obtain ⟨l0, l1, l2, l3, l4, l5, l6⟩ := HK.out _ B3
  clear k0 k1 k2 k3 k4 k5 k6 b3 B2
  cases hn : nameOk nm with
  | false =>
    have HF : Hid (kindOk 1 nm o py wd vl = false) := by show _ = _; simp [kindOk, hn]
    go_wp2_with fail
    go_ret
    exact ⟨retBl HF.out.symm, BT3.out⟩
  | true =>
    by_cases ho : o = ⟨#[]⟩
    · subst ho
      cases hp : (decide (0 ≤ py) && decide (py < 2)) with
      | false =>
        have HF : Hid (kindOk 1 nm ⟨#[]⟩ py wd vl = false) := by show _ = _; rw [kindOk, if_pos rfl, hn, emptyB, same_refl', hp]; rfl
        go_wp2_with fail
        refine (HI.out py 2 false _ hp).mono ?_
        rintro e w4 ⟨rfl, rfl⟩
        go_wp2_with fail
        go_ret
        exact ⟨retBl HF.out.symm, BT3.out⟩
      | true =>
        go_wp2_with fail
        refine (HI.out py 2 true _ hp).mono ?_
        rintro e w4 ⟨rfl, rfl⟩
        go_wp2_with fail
        cases hw : (decide (1 ≤ wd) && decide (wd ≤ 10)) with
        | false =>
          have HF : Hid (kindOk 1 nm ⟨#[]⟩ py wd vl = false) := by show _ = _; rw [kindOk, if_pos rfl, hn, emptyB, same_refl', hp, hw]; rfl
          refine (isNumberWidth_any wd false _ hw).mono ?_
          rintro e w4 ⟨rfl, rfl⟩
          go_wp2_with fail
          go_ret
          exact ⟨retBl HF.out.symm, BT3.out⟩
        | true =>
          have HF : Hid (kindOk 1 nm ⟨#[]⟩ py wd vl = decide (vl = 0)) := by show _ = _; rw [kindOk, if_pos rfl, hn, emptyB, same_refl', hp, hw]; simp
          refine (isNumberWidth_any wd true _ hw).mono ?_
          rintro e w4 ⟨rfl, rfl⟩
          by_cases hv : vl = 0
          · subst hv
            go_wp2_with fail
            go_ret
            exact ⟨retBl HF.out.symm, BT3.out⟩
          · go_wp2_with fail
            go_ret
            exact ⟨retBl (by rw [HF.out]; rfl), BT3.out⟩
    · have HF : Hid (kindOk 1 nm o py wd vl = false) := by show _ = _; rw [kindOk, if_pos rfl, hn, same_no (b := ByteArray.empty) ho]; rfl
      have ho2 := empty_ne ho
      clear ho
      go_wp2_with fail
      go_ret
      exact ⟨retBl HF.out.symm, BT3.out⟩

end Go.Proofs.YtcbofogmfelpkaaDoor
