/- Several texts in one: LnN1, LnN2, LnN3, LnN4, LnN5, LnN6, LnN7. What each says stands at its head. -/
import Derived.Test.YtcbofogmfelpkaaDoorLnF2
import Derived.Deep.DeepCutAuto
import Derived.RangeFuncBox
import Derived.RangeFuncNested
import Derived.RangeFuncLeaves
import Derived.Shelf.Abstract
import Derived.OwnWalkIn
import Derived.TacticsInMore
import Derived.LoopNIn
import Derived.LoopIn
import Derived.Shelf.RegionOpen
import Derived.RangeFuncCalls

/- Which lines are needed, as mathematics, and the model's laNeeded. For lists of at most 1048576 lines that are programs. -/
namespace Go.Proofs.YtcbofogmfelpkaaDoor
open Go Go.RowKit
set_option maxRecDepth 100000


/-- Does one of these names stand for the j-th line? -/
def hitsL (ls : List Ln) (ps : List ByteArray) (j : Nat) : Bool := ps.any fun p => decide (findL ls p = (j : Int))
/-- What is known to be needed when the last t lines have been looked at, the last one first. -/
def needTo (ls : List Ln) : Nat → Nat → Bool
  | 0, j => decide ((lnAt ls j).kind = 6)
  | t + 1, j => needTo ls t j || (needTo ls t (ls.length - 1 - t) && hitsL ls (lnAt ls (ls.length - 1 - t)).parts j)
def needB (ls : List Ln) (j : Nat) : Bool := needTo ls ls.length j
/-- The same as the model has it: a result is only marked when it is looked at. -/
def sNeed (ls : List Ln) (t j : Nat) : Bool := needTo ls t j && (decide (ls.length - t ≤ j) || decide ((lnAt ls j).kind ≠ 6))
theorem findL_gives {ls : List Ln} {s : ByteArray} {j : Nat} (h : findL ls s = (j : Int)) : j < ls.length ∧ gives s (lnAt ls j) = true := by
  unfold findL at h
  split at h
  · rename_i h1
    have e : ls.findIdx (gives s) = j := by omega
    have h2 := List.findIdx_getElem (xs := ls) (p := gives s) (w := h1)
    subst e
    refine ⟨h1, ?_⟩
    rw [lnAt_get h1]
    exact h2
  · omega
theorem hits_kind {ls : List Ln} {ps : List ByteArray} {j : Nat} (h : hitsL ls ps j = true) : (lnAt ls j).kind ≠ 6 := by
  rw [hitsL, List.any_eq_true] at h
  obtain ⟨p, _, hp⟩ := h
  exact ((gives_iff _ _).1 (findL_gives (of_decide_eq_true hp)).2).1
theorem hits_step (ls : List Ln) (ps : List ByteArray) (q j : Nat) (hq : q < ps.length) : hitsL ls (ps.take (q + 1)) j = (hitsL ls (ps.take q) j || decide (findL ls (wordAt ps q) = (j : Int))) := by
  rw [hitsL, List.take_add_one, List.getElem?_eq_getElem hq, List.any_append, hitsL]
  simp [wordAt, List.getD_eq_getElem?_getD, List.getElem?_eq_getElem hq]
theorem needTo_out {ls : List Ln} {j : Nat} (h : (lnAt ls j).kind = 6) : ∀ t, needTo ls t j = true
  | 0 => by rw [needTo, decide_eq_true h]
  | t + 1 => by rw [needTo, needTo_out h t]; rfl
theorem sNeed_zero (ls : List Ln) (j : Nat) (hj : j < ls.length) : sNeed ls 0 j = false := by
  rw [sNeed, needTo]
  by_cases h : (lnAt ls j).kind = 6
  · rw [decide_eq_false (show ¬ ls.length - 0 ≤ j by omega), decide_eq_false (show ¬ (lnAt ls j).kind ≠ 6 from fun e => e h)]; simp
  · rw [decide_eq_false h]; rfl
theorem sNeed_all (ls : List Ln) (j : Nat) : sNeed ls ls.length j = needB ls j := by
  rw [sNeed, decide_eq_true (show ls.length - ls.length ≤ j by omega), needB]; simp
/-- The line that is looked at: it's marked if it is a result. -/
theorem sNeed_here (ls : List Ln) (t i : Nat) : (sNeed ls t i || decide ((lnAt ls i).kind = 6)) = needTo ls t i := by
  by_cases h : (lnAt ls i).kind = 6
  · rw [decide_eq_true h, needTo_out h]; simp
  · rw [sNeed, decide_eq_false h, decide_eq_true h]; simp
theorem sNeed_next {ls : List Ln} {t i : Nat} (hi : ls.length = t + 1 + i) (j : Nat) : ((if j = i then needTo ls t i else sNeed ls t j) || (needTo ls t i && hitsL ls (lnAt ls i).parts j)) = sNeed ls (t + 1) j := by
  have ei : ls.length - 1 - t = i := by omega
  have e1 : sNeed ls (t + 1) j = ((needTo ls t j || (needTo ls t i && hitsL ls (lnAt ls i).parts j)) && (decide (ls.length - (t + 1) ≤ j) || decide ((lnAt ls j).kind ≠ 6))) := by rw [sNeed, needTo, ei]
  have e0 : sNeed ls t j = (needTo ls t j && (decide (ls.length - t ≤ j) || decide ((lnAt ls j).kind ≠ 6))) := rfl
  rw [e1]
  by_cases e : j = i
  · subst e
    rw [if_pos rfl, decide_eq_true (show ls.length - (t + 1) ≤ j by omega)]
    cases needTo ls t j <;> simp
  · rw [if_neg e, e0]
    have ed : decide (ls.length - (t + 1) ≤ j) = decide (ls.length - t ≤ j) := decide_eq_decide.2 (by omega)
    rw [ed]
    cases hh : hitsL ls (lnAt ls i).parts j with
    | true =>
      rw [decide_eq_true (hits_kind hh)]
      simp
    | false => simp
theorem parts_num {ls : List Ln} (hl : ls.all lineOk = true) {k : Nat} (hk : k < ls.length) : ((lnAt ls k).parts.length : Int) = partsK (lnAt ls k).kind := by
  have h := line_good hl hk
  rw [lineOk, Bool.and_eq_true, decide_eq_true_eq] at h
  exact h.1.2
theorem parts_three {ls : List Ln} (hl : ls.all lineOk = true) {k : Nat} (hk : k < ls.length) : (lnAt ls k).parts.length ≤ 3 := by
  have h := parts_num hl hk
  unfold partsK at h
  repeat' (split at h)
  all_goals omega
theorem part_place {ls : List Ln} (hn : namesGiven ls = true) {i j : Nat} (hi : i < ls.length) (hj : j < (lnAt ls i).parts.length) : ∃ r : Nat, r < i ∧ findL ls (wordAt (lnAt ls i).parts j) = (r : Int) := by
  have h1 := (names_at hn hi).2
  rw [List.all_eq_true] at h1
  have e : wordAt (lnAt ls i).parts j = (lnAt ls i).parts[j] := by simp [wordAt, List.getD_eq_getElem?_getD, List.getElem?_eq_getElem hj]
  have hgv : givenB (ls.take i) (wordAt (lnAt ls i).parts j) = true := by rw [e]; exact h1 _ (List.getElem_mem _)
  have h2 := findL_place hgv
  rw [List.length_take] at h2
  have h3 : findL ls (wordAt (lnAt ls i).parts j) = findL (ls.take i) (wordAt (lnAt ls i).parts j) := by
    have := findL_append (ls.drop i) hgv
    rwa [List.take_append_drop] at this
  exact ⟨(findL (ls.take i) (wordAt (lnAt ls i).parts j)).toNat, by omega, by rw [h3]; omega⟩

/-! ## rows of bools -/
def bvals (f : Nat → Bool) (n : Nat) : List Value := (List.range n).map fun j => .bool (f j)
theorem bvals_length (f : Nat → Bool) (n : Nat) : (bvals f n).length = n := by simp [bvals]
theorem bvals_at (f : Nat → Bool) {n k : Nat} (h : k < n) : (bvals f n)[k]? = some (.bool (f k)) := by simp [bvals, h]
theorem bvals_set (f : Nat → Bool) (n k : Nat) (b : Bool) : (bvals f n).set k (.bool b) = bvals (fun j => if j = k then b else f j) n := by
  apply List.ext_getElem?
  intro i
  by_cases hi : i < n
  · rw [bvals_at _ hi, List.getElem?_set, bvals_at _ hi, bvals_length]
    by_cases e : k = i
    · subst e
      rw [if_pos rfl, if_pos hi, if_pos rfl]
    · rw [if_neg e, if_neg (fun h => e h.symm)]
  · rw [List.getElem?_eq_none (by rw [List.length_set, bvals_length]; omega), List.getElem?_eq_none (by rw [bvals_length]; omega)]
theorem bvals_congr {f g : Nat → Bool} {n : Nat} (h : ∀ j, j < n → f j = g j) : bvals f n = bvals g n := List.map_congr_left fun j hj => by rw [h j (List.mem_range.1 hj)]
/-- Block g is a row of n bools of the call's own, from block B on. -/
def RowB (w : World) (B g n : Nat) (f : Nat → Bool) : Prop := w.ownsRow B 4 1 (.slice (some ⟨g, 0, none⟩) n n) n (bvals f n)
section
variable {w w' : World} {B B' g n k : Nat} {f f' : Nat → Bool}
theorem RowB.cell (h : RowB w B g n f) (hk : k < n) : w.cell? ⟨g, k, none⟩ = some (.bool (f k)) := by
  have h' : w.ownsRow B 4 1 (.slice (some ⟨g, 0, none⟩) n n) n (bvals f n) := h
  rw [h'.cellAt k (by omega), bvals_at f hk]
theorem RowB.free (h : RowB w B g n f) (k : Nat) : w.frozen? ⟨g, k, none⟩ = false := World.ownsRow.frozenAt h k
theorem RowB.lt (h : RowB w B g n f) : B ≤ g ∧ g < w.heap.size := World.ownsRow.lt h g rfl
theorem RowB.put (h : RowB w B g n f) (k : Nat) (b : Bool) : RowB (w.setCell ⟨g, k, none⟩ (.bool b)) B g n (fun j => if j = k then b else f j) := by
  unfold RowB
  rw [← bvals_set]
  exact (World.ownsRow.stored h k _).1
theorem RowB.congr (h : RowB w B g n f) (e : ∀ j, j < n → f j = f' j) : RowB w B g n f' := by
  unfold RowB
  rw [← bvals_congr e]
  exact h
theorem RowB.grown {row : Option Nat} (h : RowB w B g n f) (hg : w.grownBy w' row) (hne : some g ≠ row) : RowB w' B g n f := World.ownsRow.kept h hg (.inr hne)
theorem RowB.below (h : RowB w B g n f) (hb : Below w.heap.size w w') : RowB w' B g n f := h.grown (grownOf hb none) (by simp)
theorem RowB.mono (h : RowB w B g n f) (hB : B' ≤ B) : RowB w B' g n f := World.ownsRow.mono h hB
end
theorem infoBool : (Tryd.prog.info? 4).map (fun i => (i.zero, i.size, i.bytes)) = some (some (.bool false), 1, 1) := by kernel_rfl
theorem zeroBools (n : Nat) : (madeCells (Value.bool false).cells (n * 1)).toList = bvals (fun _ => false) n := by
  apply List.ext_getElem?
  intro j
  by_cases hj : j < n
  · rw [bvals_at _ hj]
    simp [madeCells, hj, Value.cells, Nat.mod_one]
  · rw [List.getElem?_eq_none (by simp [size_madeCells]; omega), List.getElem?_eq_none (by rw [bvals_length]; omega)]
theorem makeBools {ops : Array Oper} {rest : List Oper} {o : Oper} {a : Act} {Q : Exit → Act → World → Prop} (w : World) (hg : o.guard = none) (l : Operand) (hop : o.op = Op.makeSlice 69 l l)
    (n : Nat) (hl : a.eval l = .int .i64 (n : Int)) (hn : n ≤ 16777216)
    (hK : ∀ w', RowB w' w.heap.size w.heap.size n (fun _ => false) → Below w.heap.size w w' → wpList Tryd.prog ops Q rest (a.put o.dst (.slice (some ⟨w.heap.size, 0, none⟩) n n)) w') :
    wpList Tryd.prog ops Q (o :: rest) a w := by
  obtain ⟨i0, hi, hz0, hz1, hz2⟩ := info_parts infoBool
  refine wpList_make_full _ hg l l 69 hop w.heap.size 4 i0 (.bool false) 1 Tryd.underlying69 hi hz0 hz1 .i64 .i64 _ _ n hl hl rfl rfl (by rw [hz2]; omega) (by simp only [maxLen]; omega) (Nat.le_refl _) ?_
  intro w1 hown hgrow
  rw [zeroBools] at hown
  exact hK w1 hown (belowOf hgrow)

end Go.Proofs.YtcbofogmfelpkaaDoor

/- The model's laNeeded. For lists of at most 1048576 lines that are programs. -/
namespace Go.Proofs.YtcbofogmfelpkaaDoor
open Go Go.RowKit
set_option maxRecDepth 100000


set_option maxRecDepth 100000 in
set_option maxHeartbeats 1000000 in
theorem laNeeded_any (A : Option Addr) (n c : Nat) (ls : List Ln) (w : World) (h : HasL w A n ls) (hn : n ≤ 1048576) (hg : goodP ls = true) :
    Calls Tryd.prog 67 #[.slice A n c] w fun e w' => e = .returned (.slice (some ⟨w.heap.size, 0, none⟩) n n) ∧ RowB w' w.heap.size w.heap.size n (needB ls) ∧ Below w.heap.size w w' := by
  have HH := Lib.hid h
  have HL : Hid (ls.length = n) := h.1
  have HPt := Lib.hid (good_parts hg)
  have hl30 : n ≤ 30 := by have := (good_parts hg).1; have := h.1; omega
  clear h hg
  go_enter Tryd.func67, Tryd.ntmps67
  go_wp2_with (at_make; refine makeBools _ rfl _ rfl n rfl (by omega) ?_; intro w1 hr1 hb1)
  have hr0 : RowB w1 w.heap.size w.heap.size n (sNeed ls 0) := hr1.congr (fun j hj => (sNeed_zero ls j (by rw [HL.out]; exact hj)).symm)
  have HB1 := Lib.hid hb1
  clear hr1 hb1
  go_loopw [4] (fun iv wr => ∃ t : Nat, t ≤ n ∧ iv = .int .i64 ((n : Int) - 1 - (t : Int)) ∧ RowB wr w.heap.size w.heap.size n (sNeed ls t) ∧ Hid (Below w.heap.size w wr)) (fun iv _ => (intOf iv + 1).toNat)
  case atStart => exact ⟨0, Nat.zero_le _, by simp, hr0, HB1⟩
  case round =>
    clear hr0
    obtain ⟨t, ht, rfl, hr, bk⟩ := hrel
    by_cases hlt : t < n
    · obtain ⟨i, hi⟩ : ∃ i : Nat, n = t + 1 + i := ⟨n - t - 1, by omega⟩
      have hi1 : (n : Int) - 1 - (t : Int) = (i : Int) := by omega
      have hil : ls.length = t + 1 + i := by rw [HL.out]; exact hi
      have hin : i < n := by omega
      have hil2 : i < ls.length := by omega
      obtain ⟨ad, kd, nm, o, ps, py, wd, vl, P, q, d, rfl, hcw, hpw, _, _, HT⟩ := HH.out.line hin
      have hadb : ad.block < w.heap.size := by have := World.block_lt_of_cell? w _ hcw.c0; rwa [addBlock] at this
      have HC : Hid (∀ W, Below w.heap.size w W → LnAt W (ad.add (i * 7)) ⟨kd, nm, o, ps, py, wd, vl⟩ P q d ∧ HasS W P q ps ∧ HasL W (some ad) n ls) := fun W hb => ⟨hcw.keep (by rw [addBlock]; exact hb.block _ hadb), hpw.below hb, HH.out.below hb⟩
      obtain ⟨c0, c1, c2, c3, c4, c5, c6⟩ := (HC.out _ bk.out).1.cells
      have i0 : (0 : Int) ≤ (i : Int) := by omega
      have i1 : (i : Int) < (n : Int) := by omega
      have hci := hr.cell hin
      have hfi := hr.free i
      have hhere := sNeed_here ls t i
      have hnx := sNeed_next hil
      have hq3 := parts_three HPt.out.2.1 hil2
      have hfnd : ∀ j, j < (lnAt ls i).parts.length → ∃ r : Nat, r < i ∧ findL ls (wordAt (lnAt ls i).parts j) = (r : Int) := fun j hj => part_place HPt.out.2.2.1 hil2 hj
      rw [HT.out] at hhere hnx hq3 hfnd
      simp only at hhere hnx hq3 hfnd
      rw [hpw.1] at hq3 hfnd
      obtain ⟨b0, hb0⟩ : ∃ b, sNeed ls t i = b := ⟨_, rfl⟩
      obtain ⟨bn, hbn⟩ : ∃ b, needTo ls t i = b := ⟨_, rfl⟩
      rw [hb0] at hci hhere
      rw [hbn] at hhere hnx
      have r2 := hr.put i bn
      have HR2 := Lib.hid r2
      have HNx := Lib.hid hnx
      have HHr := Lib.hid hhere
      have HFnd := Lib.hid hfnd
      have HPs := Lib.hid hpw.1
      have HB3 := Lib.hid (bk.out.setCell (p := ⟨w.heap.size, i, none⟩) (Nat.le_refl _) (.bool bn))
      have hE := Lib.hid hi1
      rw [hi1]
      clear hhere hnx hfnd hb0 hbn r2 hr hcw hpw hi1 hil hil2 hadb hi
      go_upto_region 5 with fail
      go_cut [] (fun wx => wr.setCell ⟨w.heap.size, i, none⟩ (.bool bn) = wx)
      case first =>
        cases b0 with
        | true =>
          obtain rfl : bn = true := by have := HHr.out; simpa using this.symm
          go_wp2_with fail
          go_meet
          rfl
        | false =>
          by_cases h6 : kd = 6
          · subst h6
            obtain rfl : bn = true := by have := HHr.out; simpa using this.symm
            go_wp2_with fail
            go_meet
            rfl
          · have h6b : (kd == 6) = false := by simpa using h6
            obtain rfl : bn = false := by have := HHr.out; simpa [h6] using this.symm
            go_wp2_with fail
            go_meet
            rfl
      case rest =>
      obtain ⟨w3, hw3⟩ : ∃ x, x = wc := ⟨_, rfl⟩
      rw [← hw3] at hcut ⊢
      have HR3 : Hid (RowB w3 w.heap.size w.heap.size n (fun j => if j = i then bn else sNeed ls t j)) := by rw [← hcut]; exact HR2.out
      have HBw3 : Hid (Below w.heap.size w w3) := by rw [← hcut]; exact HB3.out
      clear hcut hw3 c0 c1 c2 c3 c4 c5 c6 hci hfi
      obtain ⟨hc3, _, _⟩ := HC.out _ HBw3.out
      obtain ⟨c0, c1, c2, c3, c4, c5, c6⟩ := hc3.cells
      go_wp2_with fail
      clear hc3 c0 c1 c2 c3 c4 c5 c6
      cases bn with
      | true =>
        have hr30 : RowB w3 w.heap.size w.heap.size n (fun x => (if x = i then true else sNeed ls t x) || hitsL ls (ps.take 0) x) := HR3.out.congr (fun j _ => by simp [hitsL])
        go_loopw [38] (fun jv wq => ∃ j : Nat, j ≤ q ∧ jv = .int .i64 j ∧ RowB wq w.heap.size w.heap.size n (fun x => (if x = i then true else sNeed ls t x) || hitsL ls (ps.take j) x) ∧ Hid (Below w.heap.size w wq)) (fun jv _ => q - (intOf jv).toNat)
        case atStart => exact ⟨0, Nat.zero_le _, rfl, hr30, HBw3⟩
        case round =>
          clear hr30
          obtain ⟨j, hj, rfl, hrj, bj⟩ := hrel
          obtain ⟨w5, rfl⟩ : ∃ x, x = wr := ⟨_, rfl⟩
          obtain ⟨_, hps, hls⟩ := HC.out _ bj.out
          by_cases hjl : j < q
          · obtain ⟨adp, rfl, hcs⟩ := hps.elem hjl
            obtain ⟨r, hri, hfr⟩ := HFnd.out j hjl
            obtain ⟨s, hs⟩ : ∃ s, wordAt ps j = s := ⟨_, rfl⟩
            rw [hs] at hcs hfr
            have HFi := Lib.hid (laFind_any (some ad) n c ls s w5 hls (by omega))
            rw [hfr] at HFi
            have hci := hrj.cell hin
            simp only [if_true, Bool.true_or] at hci
            have j0 : (0 : Int) ≤ (j : Int) := by omega
            have j1 : (j : Int) < (q : Int) := by omega
            have hrn : r < n := by omega
            have r0 : (0 : Int) ≤ (r : Int) := by omega
            have r1 : (r : Int) < (n : Int) := by omega
            have HSt : Hid (∀ x, x < n → (if x = r then true else ((if x = i then true else sNeed ls t x) || hitsL ls (ps.take j) x)) = ((if x = i then true else sNeed ls t x) || hitsL ls (ps.take (j + 1)) x)) := fun x _ => by
              rw [hits_step ls ps j x (by rw [HPs.out]; exact hjl), hs, hfr]
              by_cases e : x = r
              · subst e; simp
              · rw [if_neg e, decide_eq_false (by omega)]; simp
            have HRj := Lib.hid hrj
            clear hs hfr hps hls hrj
            go_wp2_with fail
            refine (HFi.out).mono ?_
            rintro e w6 ⟨rfl, b6⟩
            have hr6 := HRj.out.below b6
            have hcr := hr6.cell hrn
            have hfr := hr6.free r
            have HR6 := Lib.hid ((hr6.put r true).congr HSt.out)
            have HB6 := Lib.hid ((bj.out.trans (b6.mono bj.out.size)).setCell (p := ⟨w.heap.size, r, none⟩) (Nat.le_refl _) (.bool true))
            clear hr6 b6
            go_wp2_with fail
            go_roundw
            case rel => exact ⟨j + 1, by omega, by go_num, HR6.out, HB6⟩
            case measure => simp [intOf]; omega
          · obtain rfl : j = q := by omega
            have HF : Hid (RowB w5 w.heap.size w.heap.size n (sNeed ls (t + 1))) := hrj.congr (fun x _ => by
              have h1 := HNx.out x
              rw [List.take_of_length_le (l := ps) (by rw [HPs.out]; exact Nat.le_refl _)]
              simpa using h1)
            clear hrj hps hls
            go_wp2_with fail
            go_roundw
            case rel => exact ⟨t + 1, by omega, by have := hE.out; congr 1; omega, HF.out, bj⟩
            case measure => simp [intOf]
      | false =>
        go_loopw [38] (fun jv wq => ∃ j : Nat, j ≤ q ∧ jv = .int .i64 j ∧ RowB wq w.heap.size w.heap.size n (fun x => if x = i then false else sNeed ls t x) ∧ Hid (Below w.heap.size w wq)) (fun jv _ => q - (intOf jv).toNat)
        case atStart => exact ⟨0, Nat.zero_le _, rfl, HR3.out, HBw3⟩
        case round =>
          obtain ⟨j, hj, rfl, hrj, bj⟩ := hrel
          obtain ⟨w5, rfl⟩ : ∃ x, x = wr := ⟨_, rfl⟩
          obtain ⟨_, hps, hls⟩ := HC.out _ bj.out
          by_cases hjl : j < q
          · obtain ⟨adp, rfl, hcs⟩ := hps.elem hjl
            obtain ⟨s, hs⟩ : ∃ s, wordAt ps j = s := ⟨_, rfl⟩
            rw [hs] at hcs
            have hci := hrj.cell hin
            simp only [if_true] at hci
            have j0 : (0 : Int) ≤ (j : Int) := by omega
            have j1 : (j : Int) < (q : Int) := by omega
            have HRj := Lib.hid hrj
            clear hs hps hls hrj
            go_wp2_with fail
            go_roundw
            case rel => exact ⟨j + 1, by omega, by go_num, HRj.out, bj⟩
            case measure => simp [intOf]; omega
          · obtain rfl : j = q := by omega
            have HF : Hid (RowB w5 w.heap.size w.heap.size n (sNeed ls (t + 1))) := hrj.congr (fun x _ => by
              have h1 := HNx.out x
              simpa using h1)
            clear hrj hps hls
            go_wp2_with fail
            go_roundw
            case rel => exact ⟨t + 1, by omega, by have := hE.out; congr 1; omega, HF.out, bj⟩
            case measure => simp [intOf]
    · obtain rfl : t = n := by omega
      have e : (t : Int) - 1 - (t : Int) = -1 := by omega
      have HF : Hid (RowB wr w.heap.size w.heap.size t (needB ls)) := hr.congr (fun j _ => by rw [← HL.out]; exact sNeed_all ls j)
      rw [e]
      clear hr
      go_wp2_with fail
      go_ret
      exact ⟨rfl, HF.out, bk.out⟩

end Go.Proofs.YtcbofogmfelpkaaDoor

/- The names that are needed (NeededNames), the model's function. For lists of at most 1048576 lines. -/
namespace Go.Proofs.YtcbofogmfelpkaaDoor
open Go Go.RowKit
set_option maxRecDepth 100000


/-- The names among the first k lines that are needed. -/
def namesTo (ls : List Ln) (k : Nat) : List ByteArray := ((List.range k).filter fun j => needB ls j && decide ((lnAt ls j).kind ≠ 6)).map fun j => (lnAt ls j).name
def m_NeededNames (ls : List Ln) : List ByteArray × Bool := if goodP ls = true then (namesTo ls ls.length, true) else ([], false)
theorem namesTo_step (ls : List Ln) (k : Nat) : namesTo ls (k + 1) = namesTo ls k ++ (if (needB ls k && decide ((lnAt ls k).kind ≠ 6)) = true then [(lnAt ls k).name] else []) := by
  rw [namesTo, List.range_succ, List.filter_append, List.map_append]
  congr 1
  by_cases h : (needB ls k && decide ((lnAt ls k).kind ≠ 6)) = true
  · rw [if_pos h, List.filter_cons_of_pos (p := fun j => needB ls j && decide ((lnAt ls j).kind ≠ 6)) (a := k) (l := []) h]; rfl
  · rw [if_neg h, List.filter_cons_of_neg (p := fun j => needB ls j && decide ((lnAt ls j).kind ≠ 6)) (a := k) (l := []) h]; rfl
theorem Strs.nil_ (w : World) (B : Nat) : Strs w B (.slice none 0 0) 0 [] := ⟨rfl, World.ownsRow_nil _ _ _ _⟩
theorem strsOf {w : World} {B : Nat} {v : Value} {n : Nat} {ts : List ByteArray} (h : Strs w B v n ts) : ∃ R c, v = .slice R n c ∧ Strs w B (.slice R n c) n ts := by
  obtain ⟨R, c, rfl⟩ := sliceOf h.2
  exact ⟨R, c, rfl, h⟩

set_option maxRecDepth 100000 in
set_option maxHeartbeats 4000000 in
theorem spec_NeededNames (A : Option Addr) (n c : Nat) (ls : List Ln) (rS : List ByteArray) (rb : Bool) (w : World) (h : HasL w A n ls) (hn : n ≤ 1048576) (hnc : n ≤ c) (hz : ∀ j, j < n → FitL (lnAt ls j)) (hm : m_NeededNames ls = (rS, rb)) :
    Calls Tryd.prog 32 #[.slice A n c] w fun e w' => ∃ R m c', e = .returned (.tuple #[.slice R m c', .bool rb]) ∧ HasS w' R m rS ∧ m ≤ 16777216 ∧ Below w.heap.size w w' := by
  have HG := Lib.hid (laGood_any A n c ls w h hn hnc hz)
  have HH := Lib.hid h
  have HL : Hid (ls.length = n) := h.1
  have HM := Lib.hid hm
  clear h hz hm
  obtain ⟨b, hb⟩ : ∃ b, goodP ls = b := ⟨_, rfl⟩
  rw [hb] at HG
  have HGo := Lib.hid hb
  clear hb
  cases b with
  | false =>
    have e := HM.out
    rw [m_NeededNames, if_neg (by rw [HGo.out]; simp)] at e
    obtain ⟨rfl, rfl⟩ := Prod.mk.inj e
    clear e
    go_enter Tryd.func32, Tryd.ntmps32
    go_wp2_with fail
    refine (HG.out).mono ?_
    rintro e w2 ⟨rfl, b2⟩
    have HB2 := Lib.hid b2
    clear b2
    go_wp2_with fail
    go_ret2
    exact ⟨none, 0, 0, rfl, ⟨rfl, fun h => absurd h (by omega)⟩, by omega, HB2.out⟩
  | true =>
    have e := HM.out
    rw [m_NeededNames, if_pos HGo.out] at e
    obtain ⟨e1, rfl⟩ := Prod.mk.inj e
    have HR := Lib.hid e1
    clear e e1
    go_enter Tryd.func32, Tryd.ntmps32
    go_wp2_with fail
    refine (HG.out).mono ?_
    rintro e w2 ⟨rfl, b2⟩
    have HB2 := Lib.hid b2
    clear b2
    go_wp2_with fail
    refine (laNeeded_any A n c ls w2 (HH.out.below HB2.out) hn HGo.out).mono ?_
    rintro e w3 ⟨rfl, r3, b3⟩
    have HB3 := Lib.hid (HB2.out.trans (b3.mono HB2.out.size))
    have HR3 := Lib.hid r3
    have HO : Hid (Strs w3 w3.heap.size (.slice none 0 0) 0 (namesTo ls 0)) := Strs.nil_ _ _
    have s3 := HB3.out.size
    clear r3 b3
    go_wp2_with fail
    go_loopw [4, 13] (fun v i wr => ∃ (k : Nat) (R : Option Addr) (m c' : Nat), k ≤ n ∧ m ≤ k ∧ i = .int .i64 k ∧ v = .slice R m c' ∧ Strs wr w3.heap.size (.slice R m c') m (namesTo ls k) ∧ Below w3.heap.size w3 wr) (fun _ i _ => n - (intOf i).toNat)
    case atStart => exact ⟨0, none, 0, 0, Nat.zero_le _, Nat.le_refl _, rfl, rfl, HO.out, Below.refl _ _⟩
    case round =>
      obtain ⟨k, R, m, c', hk, hmk, rfl, rfl, ho, bk⟩ := hrel
      by_cases hlt : k < n
      · obtain ⟨ad, kd, nm, o, ps, py, wd, vl, P, q, d, rfl, hc, _, _, _, HT⟩ := ((HH.out.below HB3.out).below bk).line hlt
        obtain ⟨c0, c1, c2, c3, c4, c5, c6⟩ := hc.cells
        have hcb := (HR3.out.below bk).cell hlt
        have k0 : (0 : Int) ≤ (k : Int) := by omega
        have k1 : (k : Int) < (n : Int) := by omega
        have hst := namesTo_step ls k
        rw [HT.out] at hst
        simp only at hst
        obtain ⟨bn, hbn⟩ : ∃ b, needB ls k = b := ⟨_, rfl⟩
        rw [hbn] at hcb hst
        have sz := bk.size
        have HOk := Lib.hid ho
        have BK := Lib.hid bk
        clear hc hbn ho bk
        cases bn with
        | false =>
          have HS : Hid (namesTo ls (k + 1) = namesTo ls k) := by show _ = _; rw [hst]; simp
          clear hst
          go_wp2_with fail
          go_roundw
          case rel => exact ⟨k + 1, R, m, c', by omega, by omega, by go_num, rfl, by rw [HS.out]; exact HOk.out, BK.out⟩
          case measure => simp [intOf]; omega
        | true =>
          by_cases hk6 : kd = 6
          · have HS : Hid (namesTo ls (k + 1) = namesTo ls k) := by show _ = _; rw [hst]; simp [hk6]
            have q6 : (kd != 6) = false := by simpa using hk6
            subst hk6
            clear hst q6
            go_wp2_with fail
            go_roundw
            case rel => exact ⟨k + 1, R, m, c', by omega, by omega, by go_num, rfl, by rw [HS.out]; exact HOk.out, BK.out⟩
            case measure => simp [intOf]; omega
          · have HS : Hid (namesTo ls (k + 1) = namesTo ls k ++ [nm]) := by show _ = _; rw [hst]; simp [hk6]
            have q6 : (kd != 6) = true := by simpa using hk6
            have b1 := belowNew wr (.cells #[.string nm] 9)
            have S1 := HOk.out.below b1
            clear hst hk6
            go_wp2_with (at_builtin; refine strOnto _ rfl _ _ rfl nm w3.heap.size _ m (namesTo ls k) wr.heap.size rfl rfl ((Blk.new wr #[.string nm] 9).cell (i := 0) rfl) S1 (by omega) (Nat.le_trans sz b1.size) ?_)
            intro v4 w4 S4 b4
            rw [← HS.out] at S4
            obtain ⟨R4, c4, rfl, ho4⟩ := strsOf S4
            have B4 := Lib.hid (BK.out.trans ((b1.mono sz).trans b4))
            have HO4 := Lib.hid ho4
            clear b1 S1 S4 ho4 b4
            go_wp2_with fail
            go_roundw
            case rel => exact ⟨k + 1, R4, m + 1, c4, by omega, by omega, by go_num, rfl, HO4.out, B4.out⟩
            case measure => simp [intOf]; omega
      · obtain rfl : k = n := by omega
        have HF : Hid (HasS wr R m rS) := by show HasS _ _ _ _; rw [← HR.out, HL.out]; exact ho.has
        have BW : Hid (Below w.heap.size w wr) := HB3.out.trans (bk.mono s3)
        clear ho bk
        go_wp2_with fail
        go_ret2
        exact ⟨R, m, c', rfl, HF.out, by omega, BW.out⟩

end Go.Proofs.YtcbofogmfelpkaaDoor

/- The program's test for results, line by line, as a row of bools (changed at neededLines' closure), and slices.Backward over lines. For lists of at most 1048576 lines. -/
namespace Go.Proofs.YtcbofogmfelpkaaDoor
open Go.RowKit Go.Shelf Go.Maps
set_option maxRecDepth 100000

attribute [local go_sem] Oper.semAt_some

set_option maxRecDepth 100000 in
set_option maxHeartbeats 1000000 in
theorem needed1_any (i kd : Int) (nm o : ByteArray) (P : Value) (py wd vl : Int) (w : World) :
    Calls Tryd.prog 97 #[.int .i64 i, .agg #[.int .i64 kd, .string nm, .string o, P, .int .i64 py, .int .i64 wd, .int .i64 vl]] w fun e w' => e = .returned (.bool (decide (kd = 6))) ∧ Below w.heap.size w w' := by
  have b1 := belowNew w (.cells #[.int .i64 kd, .string nm, .string o, P, .int .i64 py, .int .i64 wd, .int .i64 vl] 53)
  have HB := Lib.hid b1
  have HR := Lib.hid (fun W => isResult_any kd nm o P py wd vl W)
  clear b1
  go_enter Tryd.func97, Tryd.ntmps97
  go_wp2_with fail
  refine (HR.out _).mono ?_
  rintro e w2 ⟨rfl, b2⟩
  have HB2 := Lib.hid (HB.out.trans (b2.mono HB.out.size))
  clear b2
  go_wp2_with fail
  go_ret
  exact ⟨rfl, HB2.out⟩

/-- A row of bools that is being filled. -/
def RowF (w : World) (B g n k : Nat) (f : Nat → Bool) : Prop := RowB w B g n (fun j => if j < k then f j else false)

set_option maxRecDepth 100000 in
set_option maxHeartbeats 2000000 in
theorem changedOuts_any (A : Option Addr) (n c : Nat) (ls : List Ln) (w : World) (h : HasL w A n ls) (hn : n ≤ 1048576) :
    Calls Tryd.prog 96 #[.slice A n c, .func (.func 97) #[] #[]] w
      fun e w' => e = .returned (.slice (some ⟨w.heap.size, 0, none⟩) n n) ∧ RowB w' w.heap.size w.heap.size n (needTo ls 0) ∧ Below w.heap.size w w' := by
  have HH := Lib.hid h
  clear h
  go_enter Tryd.func96, Tryd.ntmps96
  go_wp2_with (at_make; refine makeBools _ rfl _ rfl n rfl (by omega) ?_; intro w1 hr1 hb1)
  have hr0 : RowF w1 w.heap.size w.heap.size n 0 (needTo ls 0) := hr1.congr (fun j _ => by rw [if_neg (by omega)])
  have HB1 := Lib.hid hb1
  clear hr1 hb1
  go_loopw [13] (fun i wr => ∃ j : Nat, j ≤ n ∧ i = .int .i64 j ∧ RowF wr w.heap.size w.heap.size n j (needTo ls 0) ∧ Hid (Below w.heap.size w wr)) (fun i _ => n - (intOf i).toNat)
  case atStart => exact ⟨0, Nat.zero_le _, rfl, hr0, HB1⟩
  case round =>
    clear hr0
    obtain ⟨k, hk, rfl, hrk, bk⟩ := hrel
    by_cases hlt : k < n
    · obtain ⟨ad, kd, nm, o, ps, py, wd, vl, P, q, d, rfl, hc, _, _, _, HT⟩ := (HH.out.below bk.out).line hlt
      obtain ⟨c0, c1, c2, c3, c4, c5, c6⟩ := hc.cells
      have k0 : (0 : Int) ≤ (k : Int) := by omega
      have k1 : (k : Int) < (n : Int) := by omega
      have b2 := belowNew wr (.cells #[.int .i64 kd, .string nm, .string o, .slice P q d, .int .i64 py, .int .i64 wd, .int .i64 vl] 53)
      have y2 := Blk.new wr #[.int .i64 kd, .string nm, .string o, .slice P q d, .int .i64 py, .int .i64 wd, .int .i64 vl] 53
      have f2 : RowB _ _ _ _ _ := RowB.below hrk b2
      obtain ⟨W2, hW2⟩ : ∃ W, W = wr.alloc (.cells #[.int .i64 kd, .string nm, .string o, .slice P q d, .int .i64 py, .int .i64 wd, .int .i64 vl] 53) := ⟨_, rfl⟩
      rw [← hW2] at b2 y2 f2
      obtain ⟨⟨d0, d1, d2, d3, d4, d5, d6⟩, _⟩ := y2.seven
      have B2 := Lib.hid (bk.out.trans (b2.mono bk.out.size))
      have F2 := Lib.hid f2
      have HC := Lib.hid (fun W => needed1_any (k : Int) kd nm o (.slice P q d) py wd vl W)
      clear hc b2 y2 f2 hrk
      go_upto_region 5 with fail
      rw [← hW2]
      clear hW2 c0 c1 c2 c3 c4 c5 c6
      go_wp2_with fail
      refine (HC.out _).mono ?_
      rintro e w3 ⟨rfl, b3⟩
      have B3 := Lib.hid (B2.out.trans (b3.mono B2.out.size))
      have f3 := F2.out.below b3
      have hu := f3.cell hlt
      have hfr := f3.free k
      have HR3 := Lib.hid (f3.put k (decide (kd = 6)))
      clear b3 f3
      go_wp2_with fail
      go_roundw
      case rel =>
        refine ⟨k + 1, by omega, by go_num, ?_, B3.out.setCell (p := ⟨w.heap.size, k, none⟩) (Nat.le_refl _) _⟩
        refine RowB.congr HR3.out (fun j hj => ?_)
        by_cases e : j = k
        · subst e
          rw [if_pos rfl, if_pos (by omega), needTo, HT.out]
        · rw [if_neg e]
          by_cases e2 : j < k
          · rw [if_pos e2, if_pos (by omega)]
          · rw [if_neg e2, if_neg (by omega)]
      case measure => simp [intOf]; omega
    · obtain rfl : k = n := by omega
      have HF : Hid (RowB wr w.heap.size w.heap.size k (needTo ls 0)) := RowB.congr hrk (fun j hj => by rw [if_pos hj])
      clear hrk
      go_wp2_with fail
      go_ret
      exact ⟨rfl, HF.out, bk.out⟩

end Go.Proofs.YtcbofogmfelpkaaDoor

/- slices.Backward over lines of programs. For lists of at most 16777216 lines. -/
namespace Go.Proofs.YtcbofogmfelpkaaDoor
open Go.RowKit Go.Shelf Go.Maps
set_option maxRecDepth 100000

attribute [local go_sem] Oper.semAt_some

def upToL {α : Type} (f : Nat → α) (k : Nat) : List α := (List.range k).map f
theorem upToL_succ {α : Type} (f : Nat → α) (k : Nat) : upToL f (k + 1) = upToL f k ++ [f k] := by simp [upToL, List.range_succ]
theorem upToL_length {α : Type} (f : Nat → α) (k : Nat) : (upToL f k).length = k := by simp [upToL]
def valIntL : Value → Int
  | .int _ q => q
  | _ => 0
/-- What a round keeps: what lay below n₀, and the cell with the slice. -/
def KgL (n₀ Bs : Nat) (W W' : World) : Prop := Below n₀ W W' ∧ ∀ v, W.cell? ⟨Bs, 0, none⟩ = some v → W'.cell? ⟨Bs, 0, none⟩ = some v
theorem KgL.t {n₀ Bs : Nat} {A B C : World} (h : KgL n₀ Bs A B) (k : KgL n₀ Bs B C) : KgL n₀ Bs A C := ⟨h.1.trans k.1, fun v hv => k.2 v (h.2 v hv)⟩
theorem KgL.b {n₀ Bs : Nat} {w : World} (hn : n₀ ≤ w.heap.size) (W : World) (l : Nat) (o o' : Obj) (hl : w.heap.size ≤ l) (h : W.heap[l]? = some o) (hc : o.isCells = false) (hw : o.isWalk = false) : KgL n₀ Bs W (W.putObj l o') :=
  ⟨belowK_b hn W l o o' hl h hc hw, fun v hv => cell_kept hv (grownBy_putObj' W l o') (fun r e => by cases e; exact ⟨_, h, hc⟩)⟩
/-- A line as a value; its parts lie at F. -/
def lineVal (x : Ln) (F : Option Addr × Nat × Nat) : Value := .agg #[.int .i64 x.kind, .string x.name, .string x.op, .slice F.1 F.2.1 F.2.2, .int .i64 x.party, .int .i64 x.width, .int .i64 x.value]

set_option maxRecDepth 100000 in
set_option maxHeartbeats 2000000 in
/-- slices.Backward's closure over lines: for every body of a loop that keeps what lay below n₀ and the cell with the slice. -/
theorem backwardL1_in {α : Type} (encs : α → Array Value) (f : Nat → α) (F : Fence) (m : Nat) (h7 : F.fn 112) (hro : F.round = none) (hm : 1 ≤ m) (l Bs n₀ : Nat) (A : Option Addr) (n c : Nat) (ls : List Ln) (G : Nat → Option Addr × Nat × Nat) (hn : n ≤ 16777216)
    (hf : ∀ k, k < n → encs (f k) = #[.int .i64 ((n : Int) - 1 - (k : Int)), lineVal (lnAt ls (n - 1 - k)) (G (n - 1 - k))]) (J Jx : List α → World → Prop)
    (hY : ∀ pre x W, J pre W → pre.length < n → YieldAt F (m - 1) Tryd.prog l (encs x) W fun e W' =>
      (e = .returned (.bool true) ∧ J (pre ++ [x]) W' ∧ KgL n₀ Bs W W') ∨ (e = .returned (.bool false) ∧ Jx (pre ++ [x]) W'))
    (W : World) (hBs : W.cell? ⟨Bs, 0, none⟩ = some (.slice A n c)) (hc : ∀ k, k < n → ∃ ad : Addr, A = some ad ∧ ad.block < n₀ ∧ LnAt W (ad.add (k * 7)) (lnAt ls k) (G k).1 (G k).2.1 (G k).2.2) (h0 : J [] W) :
    CallsIn F m Tryd.prog 112 #[.func (.yield l) #[] #[], .pointer (some ⟨Bs, 0, none⟩)] W fun e W' => (∃ v, e = .returned v) ∧
      ((∃ ys, ys = upToL f n ∧ J ys W') ∨ (∃ pre, (∃ k, k ≤ n ∧ pre = upToL f k) ∧ Jx pre W')) := by
  refine callsIn_of_wp Tryd.func112 rfl h7 ?_ hro
  simp only [Tryd.ntmps112, List.size_toArray, List.length_cons, List.length_nil, Nat.reduceAdd, Nat.reduceSub, Array.replicate_succ, Array.replicate_zero, List.push_toArray, List.append_toArray, List.nil_append, List.cons_append]
  have HF := Lib.hid hf
  have HC := Lib.hid hc
  clear hf hc
  gi_wp2
  gi_loopw [3] (fun i wr => ∃ k : Nat, k ≤ n ∧ i = .int .i64 ((n : Int) - 1 - (k : Int)) ∧ J (upToL f k) wr ∧ Below n₀ W wr ∧ wr.cell? ⟨Bs, 0, none⟩ = some (.slice A n c))
    (fun i _ => (valIntL i + 1).toNat)
  case atStart => exact ⟨0, Nat.zero_le _, by simp, h0, Below.refl _ _, hBs⟩
  case round =>
    obtain ⟨k, hk, rfl, hJs, hnx, hBx⟩ := hrel
    by_cases hlt : k < n
    · obtain ⟨q, hq⟩ : ∃ q : Nat, n = k + 1 + q := ⟨n - k - 1, by omega⟩
      have hq1 : (n : Int) - 1 - (k : Int) = (q : Int) := by omega
      have hq2 : n - 1 - k = q := by omega
      have hqn : q < n := by omega
      obtain ⟨ad, rfl, hadb, hL⟩ := HC.out q hqn
      have hLx := hL.keep (w' := wr) (by rw [addBlock]; exact hnx.block _ hadb)
      obtain ⟨⟨kd, nm, o, ps, py, wd, vl⟩, hx⟩ : ∃ x, lnAt ls q = x := ⟨_, rfl⟩
      obtain ⟨⟨P, p, d⟩, hG⟩ : ∃ x, G q = x := ⟨_, rfl⟩
      rw [hx, hG] at hLx
      obtain ⟨c0, c1, c2, c3, c4, c5, c6⟩ := hLx.cells
      obtain ⟨fn, tmps, assign, body, hy, hR⟩ := hY _ (f k) wr hJs (by rw [upToL_length]; exact hlt)
      rw [HF.out k hlt, hq1, hq2, hx, hG] at hy
      simp only [lineVal] at hy
      rw [hq1]
      have HQ := Lib.hid hq
      clear hq hq1 hq2 hL hLx hx hG
      gi_wp2
      refine hR.mono ?_
      rintro e W3 (⟨rfl, hJ3, hk3⟩ | ⟨rfl, hJx3⟩)
      · have hB3 := hk3.2 _ hBx
        gi_wp2
        go_roundw
        case rel => exact ⟨k + 1, by omega, by have := HQ.out; go_num, by rw [upToL_succ]; exact hJ3, hnx.trans hk3.1, hB3⟩
        case measure => simp [valIntL]
      · gi_wp2
        refine bodyPost_ret (results_none rfl _ _ _) rfl ?_
        exact ⟨⟨_, rfl⟩, .inr ⟨_, ⟨k + 1, by omega, (upToL_succ _ _).symm⟩, hJx3⟩⟩
    · obtain rfl : k = n := by omega
      gi_wp2
      go_end0
      exact ⟨⟨_, rfl⟩, .inl ⟨_, rfl, hJs⟩⟩

set_option maxHeartbeats 1000000 in
/-- slices.Backward over lines: the slice is boxed, and the closure has the box. -/
theorem backwardL_in (F : Fence) (m : Nat) (h5 : F.fn 98) (hro : F.round = none) (A : Option Addr) (n c : Nat) (w : World) :
    CallsIn F m Tryd.prog 98 #[.slice A n c] w fun e w' => e = .returned (.func (.func 112) #[] #[.pointer (some ⟨w.heap.size, 0, none⟩)]) ∧ w' = w.alloc (.cells #[.slice A n c] 25) := by
  refine callsIn_of_wp Tryd.func98 rfl h5 ?_ hro
  simp only [Tryd.ntmps98, List.size_toArray, List.length_cons, List.length_nil, Nat.reduceAdd, Nat.reduceSub, Array.replicate_succ, Array.replicate_zero, List.push_toArray, List.append_toArray, List.nil_append, List.cons_append]
  gi_wp2
  go_ret
  exact ⟨rfl, rfl⟩

theorem backwardL_stops {α : Type} (encs : α → Array Value) (f : Nat → α) (F : Fence) (m : Nat) (h7 : F.fn 112) (hro : F.round = none) (hm : 1 ≤ m) (Bs n₀ : Nat) (A : Option Addr) (n c : Nat) (ls : List Ln) (G : Nat → Option Addr × Nat × Nat) (hn : n ≤ 16777216) (w : World) (hBs : Bs < w.heap.size) (hn0 : n₀ ≤ w.heap.size)
    (hf : ∀ k, k < n → encs (f k) = #[.int .i64 ((n : Int) - 1 - (k : Int)), lineVal (lnAt ls (n - 1 - k)) (G (n - 1 - k))]) (hc : w.cell? ⟨Bs, 0, none⟩ = some (.slice A n c)) (hI : ∀ k, k < n → ∃ ad : Addr, A = some ad ∧ ad.block < n₀ ∧ LnAt w (ad.add (k * 7)) (lnAt ls k) (G k).1 (G k).2.1 (G k).2.2) :
    SeqStopsK F m Tryd.prog 112 #[.pointer (some ⟨Bs, 0, none⟩)] encs (KgL n₀ Bs) (fun ys => ys = upToL f n) (fun pre => ∃ k, k ≤ n ∧ pre = upToL f k) n w := fun l J Jx W hW _ _ hY h0 =>
  backwardL1_in encs f F m h7 hro hm l Bs n₀ A n c ls G hn hf J Jx hY W ((hW.cell (p := ⟨Bs, 0, none⟩) hBs).trans hc) (fun k hk => by
    obtain ⟨ad, e, hb, hL⟩ := hI k hk
    exact ⟨ad, e, hb, hL.keep (by rw [addBlock]; exact hW.block _ (by omega))⟩) h0

end Go.Proofs.YtcbofogmfelpkaaDoor

/- The program's neededLines. For lists of at most 1048576 lines that are programs. -/
namespace Go.Proofs.YtcbofogmfelpkaaDoor
open Go.RowKit Go.Shelf Go.Maps
set_option maxRecDepth 100000

attribute [local go_sem] Oper.semAt_some

theorem placesL {w : World} {A : Option Addr} {n : Nat} {ls : List Ln} (h : HasL w A n ls) : ∃ G : Nat → Option Addr × Nat × Nat, ∀ k, k < n → ∃ ad : Addr, A = some ad ∧ ad.block < w.heap.size ∧ LnAt w (ad.add (k * 7)) (lnAt ls k) (G k).1 (G k).2.1 (G k).2.2 ∧ HasS w (G k).1 (G k).2.1 (lnAt ls k).parts := by
  have key : ∀ k, ∃ g : Option Addr × Nat × Nat, k < n → ∃ ad : Addr, A = some ad ∧ ad.block < w.heap.size ∧ LnAt w (ad.add (k * 7)) (lnAt ls k) g.1 g.2.1 g.2.2 ∧ HasS w g.1 g.2.1 (lnAt ls k).parts := fun k => by
    by_cases hk : k < n
    · obtain ⟨ad, e, hb, hc⟩ := h.2 (by omega)
      obtain ⟨P, m, d, h1, h2, _, _⟩ := hc k hk
      exact ⟨(P, m, d), fun _ => ⟨ad, e, hb, h1, h2⟩⟩
    · exact ⟨(none, 0, 0), fun h => absurd h hk⟩
  exact ⟨fun k => Classical.choose (key k), fun k hk => Classical.choose_spec (key k) hk⟩

theorem grownCellL {W W' : World} {row : Option Nat} {g i : Nat} {v : Value} (hg : W.grownBy W' row) (h : W.cell? ⟨g, i, none⟩ = some v) (hne : some g ≠ row) : W'.cell? ⟨g, i, none⟩ = some v := by
  have hlt : g < W.heap.size := World.block_lt_of_cell? _ _ h
  have e := hg.block g hlt hne
  simpa [World.cell?, e] using h

theorem need_step {ls : List Ln} {t i j : Nat} (hi : ls.length - 1 - t = i) : needTo ls (t + 1) j = (needTo ls t j || (needTo ls t i && hitsL ls (lnAt ls i).parts j)) := by subst hi; rfl

set_option maxRecDepth 100000 in
set_option maxHeartbeats 2000000 in
theorem neededLines_in (A : Option Addr) (n c : Nat) (ls : List Ln) (w : World) (h : HasL w A n ls) (hn : n ≤ 1048576) (hg : goodP ls = true) :
    CallsIn Fence.wide 5 Tryd.prog 68 #[.slice A n c] w fun e w' => ∃ g, e = .returned (.slice (some ⟨g, 0, none⟩) n n) ∧ RowB w' w.heap.size g n (needB ls) ∧ Below w.heap.size w w' := by
  obtain ⟨G, hG⟩ := placesL h
  have HL : Hid (ls.length = n) := h.1
  have HH := Lib.hid h
  have HGp := Lib.hid hG
  have HPt := Lib.hid (good_parts hg)
  have hl30 : n ≤ 30 := by have := (good_parts hg).1; have := h.1; omega
  have hro : Fence.wide.round = none := rfl
  refine callsIn_of_wp_marks Tryd.func68 rfl trivial ?_ hro
  simp only [Tryd.ntmps68, List.size_toArray, List.length_cons, List.length_nil, Nat.reduceAdd, Nat.reduceSub, Array.replicate_succ, Array.replicate_zero, List.push_toArray, List.append_toArray, List.nil_append, List.cons_append]
  have b1 := belowNew w (.cells #[.slice A n c] 25)
  have y1 := Blk.new w #[.slice A n c] 25
  obtain ⟨W1, hW1⟩ : ∃ W, W = w.alloc (.cells #[.slice A n c] 25) := ⟨_, rfl⟩
  have s1 : w.heap.size < W1.heap.size := by rw [hW1]; simp
  rw [← hW1] at b1 y1
  have HCh := Lib.hid (changedOuts_any A n c ls W1 (h.below b1) hn)
  have HB1 := Lib.hid b1
  have HY1 := Lib.hid y1
  have e1 : W1.cell? ⟨w.heap.size, 0, none⟩ = some (.slice A n c) := y1.cell (i := 0) rfl
  clear h hg hG b1 y1
  gi_wp2
  rw [← hW1]
  clear hW1
  refine ⟨trivial, (callsIn_wide.2 HCh.out).mono ?_⟩
  rintro e w2 ⟨rfl, r2, b2⟩
  have b3 := belowNew w2 (.cells #[.slice (some ⟨W1.heap.size, 0, none⟩) n n] 69)
  have z3 := Blk.new w2 #[.slice (some ⟨W1.heap.size, 0, none⟩) n n] 69
  have y3 := (HY1.out.below' b2).below' b3
  have r3 := (r2.below b3).mono HB1.out.size
  have B3 := HB1.out.trans ((b2.trans (b3.mono b2.size)).mono HB1.out.size)
  have s2 := b2.size
  obtain ⟨W3, hW3⟩ : ∃ W, W = w2.alloc (.cells #[.slice (some ⟨W1.heap.size, 0, none⟩) n n] 69) := ⟨_, rfl⟩
  have s3 : w2.heap.size < W3.heap.size := by rw [hW3]; simp
  have e3 : (w2.alloc (.cells #[.slice (some ⟨W1.heap.size, 0, none⟩) n n] 69)).cell? ⟨w.heap.size, 0, none⟩ = some (.slice A n c) := y3.cell (i := 0) rfl
  rw [← hW3] at b3 z3 y3 r3 B3
  have hl12 : W1.heap.size < w2.heap.size := r2.lt.2
  have HY3 := Lib.hid y3
  have HZ3 := Lib.hid z3
  have HR3 := Lib.hid r3
  have HB3 := Lib.hid B3
  clear e1 r2 b2 b3 z3 y3 r3 B3
  gi_wp2
  rw [← hW3]
  clear hW3 e3
  refine ⟨trivial, (backwardL_in Fence.wide 4 trivial hro _ _ _ _).mono ?_⟩
  rintro e w6 ⟨rfl, rfl⟩
  gi_wp2
  have b6 := belowNew W3 (.cells #[.slice A n c] 25)
  have y6 := Blk.new W3 #[.slice A n c] 25
  have q1 := HY3.out.below' b6
  have q2 := HZ3.out.below' b6
  have q3 := HR3.out.below b6
  have B6 := HB3.out.trans (b6.mono HB3.out.size)
  obtain ⟨w6, hw6⟩ : ∃ W, W = W3.alloc (.cells #[.slice A n c] 25) := ⟨_, rfl⟩
  have s6 : W3.heap.size < w6.heap.size := by rw [hw6]; simp
  rw [← hw6] at b6 y6 q1 q2 q3 B6 ⊢
  have hwW := HB1.out.size
  clear hw6
  refine wpIn_rangeFunc_ownH hro (by omega) (gf := 112) (lb := #[.pointer (some ⟨W3.heap.size, 0, none⟩)]) rfl trivial (enters_of Tryd.func112 (by kernel_rfl) rfl)
    (backwardL_stops (fun x : Nat => #[.int .i64 ((n : Int) - 1 - ((min x (n - 1) : Nat) : Int)), lineVal (lnAt ls (n - 1 - min x (n - 1))) (G (n - 1 - min x (n - 1)))]) (fun j => j) Fence.wide 4 trivial hro (by omega) W3.heap.size w.heap.size A n c ls G (by omega) w6 (by omega) (by omega) (fun k hk => by rw [Nat.min_eq_left (by omega)]) (y6.cell (i := 0) rfl) (fun k hk => by
      obtain ⟨ad, e, hb, hL, _⟩ := HGp.out k hk
      exact ⟨ad, e, hb, hL.keep (by rw [addBlock]; exact B6.block _ hb)⟩))
    KgL.t (KgL.b (by omega)) (Below.refl _ _) (fun _ => rfl)
    (fun pre W => ∃ f : Nat → Bool, RowB W w.heap.size W1.heap.size n f ∧ (pre = List.range pre.length → ∀ j, j < n → f j = needTo ls pre.length j) ∧ Blk W w.heap.size #[.slice A n c] 25 ∧ Blk W w2.heap.size #[.slice (some ⟨W1.heap.size, 0, none⟩) n n] 69 ∧ Below w.heap.size w W ∧ w6.heap.size ≤ W.heap.size)
    (fun _ _ _ => False)
    (fun s A' B' row hs hg hr => by
      obtain ⟨f, h1, h2, h3, h4, h5, h6⟩ := hs
      exact ⟨f, h1.grown hg (fun e => by have := (hr _ e.symm).1; omega), h2, h3.grown hg (fun e => by have := (hr _ e.symm).1; omega), h4.grown hg (fun e => by have := (hr _ e.symm).1; omega), h5.grown hg h5.size (fun k e => by have := (hr k e).1; omega), Nat.le_trans h6 hg.size⟩)
    (fun _ _ _ _ _ hs _ _ => hs)
    ⟨needTo ls 0, q3, fun _ _ _ => rfl, q1, q2, B6, Nat.le_refl _⟩
    (fun x a' W => ∃ g : Nat, a' = { tmps := #[Value.slice A n c, Value.pointer (some ⟨w.heap.size, 0, none⟩), Value.slice none 0 0, Value.pointer (some ⟨w2.heap.size, 0, none⟩), Value.int IntKind.i64 ((n : Int) - 1 - ((min x (n - 1) : Nat) : Int)), Value.pointer (some ⟨g, 0, none⟩), undef, undef, Value.slice A n c, Value.slice (some ⟨W1.heap.size, 0, none⟩) n n, Value.slice A n c, Value.func (Fn.func 112) #[] #[Value.pointer (some ⟨W3.heap.size, 0, none⟩)], Value.int IntKind.i64 ((n : Int) - 1 - ((min x (n - 1) : Nat) : Int)), lineVal (lnAt ls (n - 1 - min x (n - 1))) (G (n - 1 - min x (n - 1))), undef, undef, undef, undef, undef, undef, undef, undef, undef, undef, undef, undef, undef, undef, undef, undef, undef, undef], defers := [] } ∧ Blk W g (lnCells (lnAt ls (n - 1 - min x (n - 1))) (G (n - 1 - min x (n - 1))).1 (G (n - 1 - min x (n - 1))).2.1 (G (n - 1 - min x (n - 1))).2.2).toArray 53 ∧ w6.heap.size ≤ g)
    (fun x a' s A' B' row hs hg hr => by
      obtain ⟨g, h1, h2, h3⟩ := hs
      exact ⟨g, h1, h2.grown hg (fun e => by obtain ⟨_, o, ho, hc⟩ := hr g e.symm; rw [show A'.heap[g]? = _ from h2] at ho; cases ho; cases hc), h3⟩)
    ?assign ?body ?done ?stop
  case assign =>
    rintro l pre x W K ⟨f, h1, h2, h3, h4, h5, h6⟩ hK
    obtain ⟨⟨kd, nm, o, ps, py, wd, vl⟩, hx⟩ : ∃ y, lnAt ls (n - 1 - min x (n - 1)) = y := ⟨_, rfl⟩
    obtain ⟨⟨P, p, d⟩, hG⟩ : ∃ y, G (n - 1 - min x (n - 1)) = y := ⟨_, rfl⟩
    obtain ⟨ix, hix⟩ : ∃ ix, (n : Int) - 1 - ((min x (n - 1) : Nat) : Int) = ix := ⟨_, rfl⟩
    rw [hx, hG, hix] at hK
    rw [hx, hG, hix]
    simp only [lineVal, lnCells] at hK ⊢
    have bn := belowNew W (.cells #[.int .i64 kd, .string nm, .string o, .slice P p d, .int .i64 py, .int .i64 wd, .int .i64 vl] 53)
    have yn := Blk.new W #[.int .i64 kd, .string nm, .string o, .slice P p d, .int .i64 py, .int .i64 wd, .int .i64 vl] 53
    have hKK := Lib.hid hK
    clear hx hG hix hK
    gi_wp2
    refine hKK.out _ _ (KeepsFrom.of_grownBy (grownOf bn none) (fun j e => by cases e)) ⟨bn.mono h5.size, fun v hv => ?_⟩ ⟨f, h1.below bn, h2, h3.below' bn, h4.below' bn, h5.trans (bn.mono h5.size), Nat.le_trans h6 bn.size⟩ ⟨_, rfl, yn, h6⟩
    exact cell_kept hv (grownOf bn none) (fun r e => by cases e)
  case body =>
    rintro l pre x a' W _ _ ⟨f, h1, h2, h3, h4, h5, h6⟩ ⟨g, rfl, yg, hg⟩ hpre
    have hpn : pre.length < n := hpre
    obtain ⟨i, hi⟩ : ∃ i, n - 1 - min x (n - 1) = i := ⟨_, rfl⟩
    have hin : i < n := by omega
    have hix : (n : Int) - 1 - ((min x (n - 1) : Nat) : Int) = (i : Int) := by omega
    rw [hix]
    rw [hi] at yg ⊢
    obtain ⟨⟨kd, nm, o, ps, py, wd, vl⟩, hx⟩ : ∃ y, lnAt ls i = y := ⟨_, rfl⟩
    obtain ⟨⟨P, p, d⟩, hGi⟩ : ∃ y, G i = y := ⟨_, rfl⟩
    obtain ⟨ad, hA, hb, hL, hS⟩ := HGp.out i hin
    have hlp3 : (lnAt ls i).parts.length ≤ 3 := parts_three HPt.out.2.1 (by rw [HL.out]; exact hin)
    have HPl : Hid (∀ j, j < p → ∃ r : Nat, r < i ∧ findL ls (wordAt ps j) = (r : Int)) := fun j hj => by
      have := part_place HPt.out.2.2.1 (i := i) (j := j) (by rw [HL.out]; exact hin) (by have := hS.1; rw [hGi] at this; rw [this]; exact hj)
      rw [hx] at this
      exact this
    rw [hx] at yg hS hlp3 ⊢
    rw [hGi] at yg hS ⊢
    simp only [lineVal, lnCells] at yg hS hlp3 ⊢
    have hps : ps.length = p := hS.1
    have hp3 : p ≤ 3 := by omega
    have hSW : HasS W P p ps := (hS.below h5)
    have k3 : W.cell? ⟨w.heap.size, 0, none⟩ = some (.slice A n c) := h3.cell (i := 0) rfl
    have k4 : W.cell? ⟨w2.heap.size, 0, none⟩ = some (.slice (some ⟨W1.heap.size, 0, none⟩) n n) := h4.cell (i := 0) rfl
    have kg : W.cell? ⟨g, 3, none⟩ = some (.slice P p d) := yg.cell (i := 3) rfl
    have kf : W.cell? ⟨W1.heap.size, i, none⟩ = some (.bool (f i)) := h1.cell hin
    have i0 : (0 : Int) ≤ (i : Int) := by omega
    have i1 : (i : Int) < (n : Int) := by omega
    have HPre : Hid (pre ++ [x] = List.range (pre ++ [x]).length → pre = List.range pre.length ∧ x = pre.length) := fun e => by
      rw [List.length_append, List.length_singleton, List.range_succ] at e
      obtain ⟨e1, e2⟩ := List.append_inj e (by simp)
      exact ⟨e1, by simpa using e2⟩
    have HX := Lib.hid hx
    have HI := Lib.hid hi
    have HH2 := Lib.hid h2
    have HPS := Lib.hid hps
    have HSp := Lib.hid hS
    clear hx hi h2 hL hb hA hS hlp3 hix hps hpre
    cases hfi : f i with
    | false =>
      rw [hfi] at kf
      have HFI := Lib.hid hfi
      clear hfi
      gi_wp2
      refine ⟨KeepsFrom.refl _ _, ⟨Below.refl _ _, fun v hv => hv⟩, f, h1, fun e j hj => ?_, h3, h4, h5, h6⟩
      obtain ⟨ep, ex⟩ := HPre.out e
      have ei : ls.length - 1 - pre.length = i := by have := HL.out; have h0 := HI.out; rw [ex, Nat.min_eq_left (by omega)] at h0; omega
      have hfi' := HFI.out
      rw [HH2.out ep i hin] at hfi'
      rw [List.length_append, List.length_singleton, need_step ei, hfi', HH2.out ep j hj]
      simp
    | true =>
      rw [hfi] at kf
      have HFI := Lib.hid hfi
      clear hfi
      gi_wp2
      gi_loopw [21] (fun v wr => ∃ q : Nat, q ≤ p ∧ v = .int .i64 (q : Int) ∧ RowB wr w.heap.size W1.heap.size n (fun y => f y || hitsL ls (ps.take q) y) ∧ W.grownBy wr (some W1.heap.size)) (fun v _ => p - (valIntL v).toNat)
      case atStart =>
        exact ⟨0, Nat.zero_le _, rfl, h1.congr (fun y _ => by simp [hitsL]), World.grownBy.refl _ _⟩
      case round =>
        obtain ⟨q, hq, rfl, hR, hG⟩ := hrel
        have r3 := grownCellL hG k3 (by simp; omega)
        have r4 := grownCellL hG k4 (by simp; omega)
        have hBr : Below w.heap.size w wr := h5.grown hG h5.size (fun k e => by cases e; omega)
        by_cases hlt : q < p
        · obtain ⟨ad, rfl, hcs⟩ := (HSp.out.below hBr).elem hlt
          obtain ⟨r, hri, hfr⟩ := HPl.out q hlt
          obtain ⟨s, hs⟩ : ∃ s, wordAt ps q = s := ⟨_, rfl⟩
          rw [hs] at hcs hfr
          have q0 : (0 : Int) ≤ (q : Int) := by omega
          have q1 : (q : Int) < (p : Int) := by omega
          have hrn : r < n := by omega
          have r0 : (0 : Int) ≤ (r : Int) := by omega
          have r1 : (r : Int) < (n : Int) := by omega
          have DW : Below wr.heap.size wr wr.drew := (Below.refl _ wr).drew
          have HLG : Hid (∀ w7, Below wr.heap.size wr w7 → CallsIn (Fence.wide.inRound l) 2 Tryd.prog 55 #[.slice A n c, .string s] w7 fun e w8 => e = .returned (.int .i64 (r : Int)) ∧ Below wr.heap.size wr w8) := fun w7 b7 =>
            CallsIn.inRound l (callsIn_wide.2 (by
              have := lineGiving_any A n c ls s w7 (HH.out.below (hBr.trans (b7.mono hBr.size))) hn
              rw [hfr] at this
              exact this.mono fun e w8 ⟨e1, b8⟩ => ⟨e1, b7.trans (b8.mono b7.size)⟩))
          have HSt : Hid (∀ y, y < n → (if y = r then true else (f y || hitsL ls (ps.take q) y)) = (f y || hitsL ls (ps.take (q + 1)) y)) := fun y _ => by
            rw [hits_step ls ps q y (by rw [HPS.out]; exact hlt), hs, hfr]
            by_cases e : y = r
            · subst e; simp
            · rw [if_neg e, decide_eq_false (by omega)]; simp
          have HR := Lib.hid hR
          have HC4 : Hid (∀ W', Below wr.heap.size wr W' → W'.cell? ⟨w2.heap.size, 0, none⟩ = some (.slice (some ⟨W1.heap.size, 0, none⟩) n n) ∧ W'.cell? ⟨w.heap.size, 0, none⟩ = some (.slice A n c)) := fun W' hb => ⟨grownCellL (grownOf hb none) r4 (by simp), grownCellL (grownOf hb none) r3 (by simp)⟩
          have hf55 : Fence.wide.fn 55 := trivial
          have hmx : Tryd.prog.follows .mixedOrders = true := by kernel_rfl
          clear hs hfr hR
          gi_wp2
          gi_region_with_o (first
            | (gi_at_call 55; refine (HLG.out _ DW).mono ?_; rintro e w8 ⟨rfl, b8⟩; obtain ⟨c4, c3⟩ := HC4.out w8 b8; have hR8 := HR.out.below b8; have cr := hR8.cell hrn; have fr := hR8.free r))
          all_goals
            have HR9 := Lib.hid ((hR8.put r true).congr HSt.out)
            have HG9 := Lib.hid (grown_setCell (hG.trans (grownOf b8 (some W1.heap.size))) r (.bool true))
            clear hR8 b8
            gi_wp2
            go_roundw
            case rel => exact ⟨q + 1, by omega, by go_num, HR9.out, HG9.out⟩
            case measure => simp [valIntL]; omega
        · obtain rfl : q = p := by omega
          gi_wp2
          refine ⟨KeepsFrom.of_grownBy hG (fun j e => by cases e; omega), ⟨(Below.refl _ W).grown hG h5.size (fun k e => by cases e; omega), fun v hv => grownCellL hG hv (by simp; omega)⟩, _, hR, fun e j hj => ?_, h3.grown hG (by simp; omega), h4.grown hG (by simp; omega), hBr, Nat.le_trans h6 hG.size⟩
          obtain ⟨ep, ex⟩ := HPre.out e
          have ei : ls.length - 1 - pre.length = i := by have := HL.out; have h0 := HI.out; rw [ex, Nat.min_eq_left (by omega)] at h0; omega
          have hfi' := HFI.out
          rw [HH2.out ep i hin] at hfi'
          rw [List.length_append, List.length_singleton, need_step ei, hfi', HH2.out ep j hj, HX.out, List.take_of_length_le (by rw [HPS.out]; exact Nat.le_refl _)]
          simp
  case done =>
    rintro Dd ys W hDd rfl ⟨f, hR, hM, c1, c2, hB, hsz⟩ hK
    have hM' := hM (by simp [upToL])
    rw [upToL_length] at hM'
    have uc : W.cell? ⟨w2.heap.size, 0, none⟩ = some (.slice (some ⟨W1.heap.size, 0, none⟩) n n) := c2.cell (i := 0) rfl
    have HD := Lib.hid hR
    have HMn := Lib.hid hM'
    clear hM hM' hR
    gi_wp2
    refine ⟨by simp, .inl ⟨_, _, rfl, run_takeDeferred hK, ?_⟩⟩
    refine ⟨_, results_tmp rfl _ _ _, W1.heap.size, rfl, (HD.out.grown (grownBy_putObj' W Dd _) (by simp; omega)).congr (fun j hj => by rw [HMn.out j hj, needB, HL.out]), ?_⟩
    exact hB.trans (belowK_b (w := w) (Nat.le_refl _) W Dd _ _ (by omega) hK rfl rfl)
  case stop =>
    rintro D c pre W _ _ h _
    exact h.elim

end Go.Proofs.YtcbofogmfelpkaaDoor

/- NeededNames, the program's function. For lists of at most 1048576 lines; the forms of lines and the words of operations as laid. -/
namespace Go.Proofs.YtcbofogmfelpkaaDoor
open Go Go.RowKit
set_option maxRecDepth 100000


set_option maxRecDepth 100000 in
set_option maxHeartbeats 4000000 in
theorem impl_NeededNames (A : Option Addr) (n c : Nat) (ls : List Ln) (rS : List ByteArray) (rb : Bool) (w : World) (h : HasL w A n ls) (hn : n ≤ 1048576) (_hnc : n ≤ c) (hz : ∀ j, j < n → FitL (lnAt ls j)) (hF : Forms w) (hW : OpWords w) (hm : m_NeededNames ls = (rS, rb)) :
    Calls Tryd.prog 33 #[.slice A n c] w fun e w' => ∃ R m c', e = .returned (.tuple #[.slice R m c', .bool rb]) ∧ Strs w' w.heap.size (.slice R m c') m rS ∧ m ≤ 16777216 ∧ Below w.heap.size w w' := by
  have HG := Lib.hid (implIsProgram_any A n c ls w h hn hz hF hW)
  rw [good_same] at HG
  have HH := Lib.hid h
  have HL : Hid (ls.length = n) := h.1
  have HM := Lib.hid hm
  clear h hz hm hF hW
  obtain ⟨b, hb⟩ : ∃ b, goodP ls = b := ⟨_, rfl⟩
  rw [hb] at HG
  have HGo := Lib.hid hb
  clear hb
  cases b with
  | false =>
    have e := HM.out
    rw [m_NeededNames, if_neg (by rw [HGo.out]; simp)] at e
    obtain ⟨rfl, rfl⟩ := Prod.mk.inj e
    clear e
    go_enter Tryd.func33, Tryd.ntmps33
    go_wp2_with fail
    refine (HG.out).mono ?_
    rintro e w2 ⟨rfl, b2⟩
    have HB2 := Lib.hid b2
    clear b2
    go_wp2_with fail
    go_ret2
    exact ⟨none, 0, 0, rfl, Strs.nil_ _ _, by omega, HB2.out⟩
  | true =>
    have e := HM.out
    rw [m_NeededNames, if_pos HGo.out] at e
    obtain ⟨e1, rfl⟩ := Prod.mk.inj e
    have HR := Lib.hid e1
    clear e e1
    go_enter Tryd.func33, Tryd.ntmps33
    go_wp2_with fail
    refine (HG.out).mono ?_
    rintro e w2 ⟨rfl, b2⟩
    have HB2 := Lib.hid b2
    clear b2
    go_wp2_with fail
    refine (callsIn_wide.1 (neededLines_in A n c ls w2 (HH.out.below HB2.out) hn HGo.out)).mono ?_
    rintro e w3 ⟨gb, rfl, r3, b3⟩
    have HB3 := Lib.hid (HB2.out.trans (b3.mono HB2.out.size))
    have HR3 := Lib.hid r3
    have HO : Hid (Strs w3 w3.heap.size (.slice none 0 0) 0 (namesTo ls 0)) := Strs.nil_ _ _
    have s3 := HB3.out.size
    clear r3 b3
    go_wp2_with fail
    go_loopw [4, 13] (fun v i wr => ∃ (k : Nat) (R : Option Addr) (m c' : Nat), k ≤ n ∧ m ≤ k ∧ i = .int .i64 k ∧ v = .slice R m c' ∧ Strs wr w3.heap.size (.slice R m c') m (namesTo ls k) ∧ Below w3.heap.size w3 wr) (fun _ i _ => n - (intOf i).toNat)
    case atStart => exact ⟨0, none, 0, 0, Nat.zero_le _, Nat.le_refl _, rfl, rfl, HO.out, Below.refl _ _⟩
    case round =>
      obtain ⟨k, R, m, c', hk, hmk, rfl, rfl, ho, bk⟩ := hrel
      by_cases hlt : k < n
      · obtain ⟨ad, kd, nm, o, ps, py, wd, vl, P, q, d, rfl, hc, _, _, _, HT⟩ := ((HH.out.below HB3.out).below bk).line hlt
        obtain ⟨c0, c1, c2, c3, c4, c5, c6⟩ := hc.cells
        have hcb := (HR3.out.below bk).cell hlt
        have k0 : (0 : Int) ≤ (k : Int) := by omega
        have k1 : (k : Int) < (n : Int) := by omega
        have hst := namesTo_step ls k
        rw [HT.out] at hst
        simp only at hst
        obtain ⟨bn, hbn⟩ : ∃ b, needB ls k = b := ⟨_, rfl⟩
        rw [hbn] at hcb hst
        have sz := bk.size
        have HOk := Lib.hid ho
        have BK := Lib.hid bk
        clear hc hbn ho bk
        cases bn with
        | false =>
          have HS : Hid (namesTo ls (k + 1) = namesTo ls k) := by show _ = _; rw [hst]; simp
          clear hst
          go_wp2_with fail
          go_roundw
          case rel => exact ⟨k + 1, R, m, c', by omega, by omega, by go_num, rfl, by rw [HS.out]; exact HOk.out, BK.out⟩
          case measure => simp [intOf]; omega
        | true =>
          by_cases hk6 : kd = 6
          · have HS : Hid (namesTo ls (k + 1) = namesTo ls k) := by show _ = _; rw [hst]; simp [hk6]
            have q6 : (kd != 6) = false := by simpa using hk6
            subst hk6
            clear hst q6
            go_wp2_with fail
            go_roundw
            case rel => exact ⟨k + 1, R, m, c', by omega, by omega, by go_num, rfl, by rw [HS.out]; exact HOk.out, BK.out⟩
            case measure => simp [intOf]; omega
          · have HS : Hid (namesTo ls (k + 1) = namesTo ls k ++ [nm]) := by show _ = _; rw [hst]; simp [hk6]
            have q6 : (kd != 6) = true := by simpa using hk6
            have b1 := belowNew wr (.cells #[.string nm] 9)
            have S1 := HOk.out.below b1
            clear hst hk6
            go_wp2_with (at_builtin; refine strOnto _ rfl _ _ rfl nm w3.heap.size _ m (namesTo ls k) wr.heap.size rfl rfl ((Blk.new wr #[.string nm] 9).cell (i := 0) rfl) S1 (by omega) (Nat.le_trans sz b1.size) ?_)
            intro v4 w4 S4 b4
            rw [← HS.out] at S4
            obtain ⟨R4, c4, rfl, ho4⟩ := strsOf S4
            have B4 := Lib.hid (BK.out.trans ((b1.mono sz).trans b4))
            have HO4 := Lib.hid ho4
            clear b1 S1 S4 ho4 b4
            go_wp2_with fail
            go_roundw
            case rel => exact ⟨k + 1, R4, m + 1, c4, by omega, by omega, by go_num, rfl, HO4.out, B4.out⟩
            case measure => simp [intOf]; omega
      · obtain rfl : k = n := by omega
        have HF : Hid (Strs wr w.heap.size (.slice R m c') m rS) := by show Strs _ _ _ _ _; rw [← HR.out, HL.out]; exact ⟨ho.1, World.ownsRow.mono ho.2 s3⟩
        have BW : Hid (Below w.heap.size w wr) := HB3.out.trans (bk.mono s3)
        clear ho bk
        go_wp2_with fail
        go_ret2
        exact ⟨R, m, c', rfl, HF.out, by omega, BW.out⟩

end Go.Proofs.YtcbofogmfelpkaaDoor
