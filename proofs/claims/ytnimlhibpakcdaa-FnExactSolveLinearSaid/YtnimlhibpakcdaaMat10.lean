/- A copy of a list of lists, its comparison and its marks, in the exact laws. For at most 1048576 elements in all. -/
import Derived.Test.YtnimlhibpakcdaaMat9
import Derived.Deep.RegionHeld3
namespace Go.Proofs.Ytnimlhibpakcdaa
open Go.RowKit

/-- A copy in blocks of its own, from S on: the outer one is g, the rows lie behind it, each in a block of its own. -/
structure OwnM (w : World) (S g n : Nat) (Rf : Nat → Option Addr) (M : Nat → List Int) : Prop where
  outer : w.ownsRow S 28 1 (.slice (some ⟨g, 0, none⟩) n n) n ((List.range n).map fun i => Value.slice (Rf i) (M i).length (M i).length)
  row : ∀ i, i < n → Own w (g + 1) (Rf i) (M i).length (M i).length (M i)
  diff : ∀ i j, i < n → j < n → i ≠ j → ∀ a b : Addr, Rf i = some a → Rf j = some b → a.block ≠ b.block

/-- Of what was in memory nothing turned but in blocks from S to T. -/
structure Span (S T : Nat) (w w' : World) : Prop where
  os : w'.os = w.os
  tape : w'.tape = w.tape
  output : w'.output = w.output
  size : w.heap.size ≤ w'.heap.size
  block : ∀ i, i < w.heap.size → (i < S ∨ T ≤ i) → w'.heap[i]? = w.heap[i]?

section
variable {w w' w'' W wx : World} {S T B g n k m c : Nat} {Rf : Nat → Option Addr} {M : Nat → List Int} {A : Option Addr} {zs : List Int}
theorem Span.refl (S T : Nat) (w : World) : Span S T w w := ⟨rfl, rfl, rfl, Nat.le_refl _, fun _ _ _ => rfl⟩
theorem Span.grown {row : Option Nat} (h : Span S T w w') (hg : w'.grownBy w'' row) (hr : ∀ x, row = some x → S ≤ x ∧ x < T) : Span S T w w'' :=
  ⟨hg.os.trans h.os, hg.tape.trans h.tape, hg.output.trans h.output, Nat.le_trans h.size hg.size, fun i hi hs => (hg.block i (Nat.lt_of_lt_of_le hi h.size) (fun e => by have := hr i e.symm; omega)).trans (h.block i hi hs)⟩
theorem Has.span (h : Has w A n zs) (hs : Span S T w w') (ho : Old S A n) : Has w' A n zs := by
  refine ⟨h.1, fun hn => ?_⟩
  have hk : Has w' A n zs := h.keep hs.size (fun ad e hlt => hs.block _ hlt (.inl (ho hn ad e)))
  exact hk.2 hn
theorem Own.span (h : Own w B A n c zs) (hs : Span S T w w') (hT : T ≤ B) : Own w' B A n c zs := by
  refine ⟨h.1, ?_⟩
  rcases h.2 with ⟨h1, h2⟩
  refine ⟨h1, ?_⟩
  rcases h2 with h2 | ⟨g, cap, cur, e, hb, hg, h5, h6, h7, h8⟩
  · exact .inl h2
  · refine .inr ⟨g, cap, cur, e, hb, ?_, h5, h6, h7, h8⟩
    rw [hs.block g (by have := (Array.getElem?_eq_some_iff.1 hg).1; exact this) (.inr (by omega))]
    exact hg
theorem belowSpan (h : Below B W w) (hs : Span S T w w') (hB : B ≤ S) (hw : B ≤ w.heap.size) : Below B W w' :=
  h.trans ⟨hs.os, hs.tape, hs.output, hs.size, fun i hi => hs.block i (by omega) (.inl (by omega))⟩

theorem OwnM.lt (h : OwnM w S g n Rf M) : S ≤ g ∧ g < w.heap.size := h.outer.lt g rfl
theorem OwnM.below (h : OwnM w S g n Rf M) (hb : Below w.heap.size w w') : OwnM w' S g n Rf M :=
  ⟨h.outer.kept (grownOf hb none) (.inr (by simp [Value.ownBlock])), fun i hi => (h.row i hi).below hb, h.diff⟩
theorem OwnM.cell (h : OwnM w S g n Rf M) (hk : k < n) : w.cell? ⟨g, k, none⟩ = some (.slice (Rf k) (M k).length (M k).length) := by
  rw [h.outer.cellAt k (by omega)]
  simp [hk]
theorem OwnM.hasM (h : OwnM w S g n Rf M) (hM : ∀ i, i < n → (M i).length ≤ 16777216) : HasM w (some ⟨g, 0, none⟩) n M := fun hn => by
  refine ⟨_, rfl, h.lt.2, fun k hk => ?_⟩
  refine ⟨Rf k, (M k).length, (M k).length, by rw [addNone]; exact h.cell hk, (h.row k hk).has, hM k hk, Nat.le_refl _, own_nilOk (h.row k hk)⟩
end

set_option maxRecDepth 100000 in
set_option maxHeartbeats 1000000 in
theorem toIntSS_any (A : Option Addr) (n c : Nat) (M : Nat → List Int) (w : World) (h : HasM w A n M) (hn : n ≤ 1048576) :
    Calls Try.prog 40 #[.slice A n c] w fun e w' => ∃ g, e = .returned (.slice (some ⟨g, 0, none⟩) n n) ∧ Below w.heap.size w w' ∧ ∃ Rf, OwnM w' w.heap.size g n Rf M := by
  go_enter Try.func40, Try.ntmps40
  go_wp2_with (at_make; refine makeMat _ rfl _ rfl n rfl (by omega) ?_; intro w1 hm hb1)
  obtain ⟨vs0, ho0, _⟩ := hm
  go_loopw [4] (fun i wr => ∃ (j : Nat) (Rf : Nat → Option Addr) (vs : List Value), j ≤ n ∧ i = .int .i64 j ∧ wr.ownsRow w.heap.size 28 1 (.slice (some ⟨w.heap.size, 0, none⟩) n n) n vs ∧ (∀ k, k < j → vs[k]? = some (.slice (Rf k) (M k).length (M k).length)) ∧ (∀ k, k < j → Own wr (w.heap.size + 1) (Rf k) (M k).length (M k).length (M k)) ∧
    (∀ a b, a < j → b < j → a ≠ b → ∀ x y : Addr, Rf a = some x → Rf b = some y → x.block ≠ y.block) ∧ Below w.heap.size w wr) (fun i _ => n - (intOf i).toNat)
  case atStart => exact ⟨0, fun _ => none, vs0, Nat.zero_le _, rfl, ho0, fun k hk => by omega, fun k hk => by omega, fun a b ha => by omega, hb1⟩
  case round =>
    obtain ⟨j, Rf, vs, hj, rfl, ho, hvs, hrows, hdiff, hbj⟩ := hrel
    by_cases hlt : j < n
    · obtain ⟨ad, R, m, cR, rfl, hcR, hRow, hm1, hmc, hNil⟩ := (h.below hbj).elem hlt
      obtain rfl : m = (M j).length := hRow.1.symm
      have hgl := (ho.lt w.heap.size rfl).2
      have hvl : vs.length = n := by simpa using ho.1
      have hcu : wr.cell? ⟨w.heap.size, j, none⟩ = some (vs[j]'(by omega)) := by rw [ho.cellAt j (by omega)]; exact List.getElem?_eq_getElem _
      have hfu := ho.frozenAt j
      have hHV := Lib.hid hvs
      have hHR := Lib.hid hrows
      have hHD := Lib.hid hdiff
      have hj0 : (0 : Int) ≤ (j : Int) := by omega
      have hj1 : (j : Int) < (n : Int) := by omega
      clear hvs hrows hdiff
      go_wp2_with fail
      refine (toIntS_any R (M j).length cR (M j) wr hRow (by omega)).mono ?_
      rintro e w2 ⟨A2, rfl, ho2, hb2⟩
      have ho3 : w2.ownsRow w.heap.size 28 1 (.slice (some ⟨w.heap.size, 0, none⟩) n n) n vs := ho.kept (grownOf hb2 none) (.inr (by simp [Value.ownBlock]))
      have hcu2 : w2.cell? ⟨w.heap.size, j, none⟩ = some (vs[j]'(by omega)) := by rw [ho3.cellAt j (by omega)]; exact List.getElem?_eq_getElem _
      have hfu2 := ho3.frozenAt j
      have hb3 := hbj.trans (hb2.mono hbj.size)
      clear hcu hfu
      go_wp2
      have hst := ho3.stored j (.slice A2 (M j).length (M j).length)
      go_roundw
      case rel =>
        refine ⟨j + 1, fun i => if i = j then A2 else Rf i, _, by omega, by go_num, hst.1, fun k hk => ?_, fun k hk => ?_, fun a b ha hb hne x y hx hy => ?_, hb3.setCell (Nat.le_refl _) _⟩
        · show _ = some (Value.slice (if k = j then A2 else Rf k) (M k).length (M k).length)
          by_cases e : k = j
          · subst e
            rw [if_pos rfl, List.getElem?_set_self (by omega)]
          · rw [if_neg e, List.getElem?_set_ne (by omega)]
            exact hHV.out k (by omega)
        · show Own _ (w.heap.size + 1) (if k = j then A2 else Rf k) (M k).length (M k).length (M k)
          by_cases e : k = j
          · subst e
            rw [if_pos rfl]
            exact (ho2.mono (by omega)).kept hst.2 (fun ad e he => by have := (ho2.born ad e).1; simp at he; omega)
          · rw [if_neg e]
            have h9 := (hHR.out k (by omega)).below hb2
            exact h9.kept hst.2 (fun ad e he => by have := (h9.born ad e).1; simp at he; omega)
        · have hx' : (if a = j then A2 else Rf a) = some x := hx
          have hy' : (if b = j then A2 else Rf b) = some y := hy
          by_cases ea : a = j
          · rw [if_pos ea] at hx'
            rw [if_neg (by omega)] at hy'
            have h1 := (ho2.born x hx').1
            have h2 := ((hHR.out b (by omega)).born y hy').2
            omega
          · rw [if_neg ea] at hx'
            have h1 := ((hHR.out a (by omega)).born x hx').2
            by_cases eb : b = j
            · rw [if_pos eb] at hy'
              have h2 := (ho2.born y hy').1
              omega
            · rw [if_neg eb] at hy'
              exact hHD.out a b (by omega) (by omega) hne x y hx' hy'
      case measure => simp [intOf]; omega
    · obtain rfl : n = j := by omega
      go_wp2
      go_ret
      have hvl : vs.length = n := by simpa using ho.1
      refine ⟨w.heap.size, rfl, hbj, Rf, ?_, hrows, hdiff⟩
      have e : vs = (List.range n).map fun i => Value.slice (Rf i) (M i).length (M i).length := by
        apply List.ext_getElem?
        intro k
        by_cases hk : k < n
        · rw [hvs k hk]; simp [hk]
        · rw [List.getElem?_eq_none (by omega), List.getElem?_eq_none (by simp; omega)]
      rw [← e]
      exact ho

set_option maxRecDepth 100000 in
set_option maxHeartbeats 1000000 in
theorem markIntSS_any (S T g n : Nat) (Rf : Nat → Option Addr) (M : Nat → List Int) (m : Int) (w : World) (h : OwnM w S g n Rf M) (hT : ∀ i a, i < n → Rf i = some a → a.block < T) (hn : n ≤ 1048576) (hl : lenTo M n ≤ 1048576) (hm0 : 0 ≤ m) (hm1 : m ≤ 4194304) :
    Calls Try.prog 43 #[.slice (some ⟨g, 0, none⟩) n n, .int .i64 m] w fun e w' => e = .returned (.int .i64 (m + (lenTo M n : Int))) ∧ Span S T w w' := by
  have hlt := h.lt
  have hTT := Lib.hid hT
  clear hT
  go_enter Try.func43, Try.ntmps43
  go_wp2
  go_loopw [1, 5] (fun q i wr => ∃ k : Nat, k ≤ n ∧ i = .int .i64 k ∧ q = .int .i64 (m + (lenTo M k : Int)) ∧ Span S T w wr ∧ (∀ j, j < n → wr.cell? ⟨g, j, none⟩ = some (.slice (Rf j) (M j).length (M j).length)) ∧ (∀ j, k ≤ j → j < n → Own wr (g + 1) (Rf j) (M j).length (M j).length (M j))) (fun _ i _ => n - (intOf i).toNat)
  case atStart => exact ⟨0, Nat.zero_le _, rfl, by simp [lenTo], Span.refl _ _ _, fun j hj => h.cell hj, fun j _ hj => h.row j hj⟩
  case round =>
    obtain ⟨k, hk, rfl, rfl, hsp, hcells, hrows⟩ := hrel
    by_cases hltk : k < n
    · have hck := hcells k hltk
      have hro := hrows k (Nat.le_refl _) hltk
      have hle := lenTo_mono (M := M) hk
      have hle2 := lenTo_row (M := M) hltk
      have HC := Lib.hid hcells
      have HR := Lib.hid hrows
      clear hcells hrows
      go_wp2_with fail
      refine (markIntS_any (Rf k) (g + 1) (M k).length (M k).length (m + (lenTo M k : Int)) (M k) wr hro (by omega) (by omega) (by omega)).mono ?_
      rintro e w2 ⟨rfl, ho2, hg2⟩
      have hblk : ∀ x, blockOf (Rf k) = some x → g + 1 ≤ x ∧ x < T := fun x hx => by
        cases hR : Rf k with
        | none => rw [hR] at hx; simp [blockOf] at hx
        | some a =>
          rw [hR] at hx
          simp [blockOf] at hx
          subst hx
          exact ⟨(hro.born a hR).1, hTT.out k a hltk hR⟩
      have hcells2 : ∀ j, j < n → w2.cell? ⟨g, j, none⟩ = some (.slice (Rf j) (M j).length (M j).length) := fun j hj => by
        refine (World.cell?_of_block ?_).trans (HC.out j hj)
        exact hg2.block g (by have := hsp.size; omega) (fun e => by have := hblk g e.symm; omega)
      have hrows2 : ∀ j, k + 1 ≤ j → j < n → Own w2 (g + 1) (Rf j) (M j).length (M j).length (M j) := fun j hj1 hj2 => by
        refine (HR.out j (by omega) hj2).kept hg2 (fun ad e he => ?_)
        cases hR : Rf k with
        | none => rw [hR] at he; simp [blockOf] at he
        | some a =>
          rw [hR] at he
          simp [blockOf] at he
          exact h.diff j k hj2 hltk (by omega) ad a e hR he
      have hsp2 := hsp.grown hg2 (fun x hx => by have := hblk x hx; omega)
      have HC2 := Lib.hid hcells2
      have HR2 := Lib.hid hrows2
      clear hcells2 hrows2
      go_wp2
      go_roundw
      case rel => exact ⟨k + 1, by omega, by go_num, by rw [lenTo]; congr 1; push_cast; omega, hsp2, HC2.out, HR2.out⟩
      case measure => simp [intOf]; omega
    · obtain rfl : k = n := by omega
      go_wp2
      go_ret
      exact ⟨rfl, hsp⟩

end Go.Proofs.Ytnimlhibpakcdaa
