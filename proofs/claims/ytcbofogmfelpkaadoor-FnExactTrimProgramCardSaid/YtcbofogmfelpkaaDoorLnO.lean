/- A list of lines of a program that came in as an argument of an exact law: what it reads as. No condition. -/
import Derived.Test.YtcbofogmfelpkaaDoorLn2
import Derived.Test.YtcbofogmfelpkaaDoorClose
import Derived.SliceStrings
import Derived.Deep.Slices
namespace Go.Proofs.YtcbofogmfelpkaaDoor
open Go.ChangeShapes Go.WideShapes Go.ChangeAt Go.RowKit Go.Deep
set_option maxRecDepth 100000

theorem cellsLineL : Tryd.prog.cellsOf 52 = 7 := by kernel_rfl
theorem cellsStrs : Tryd.prog.cellsOf 43 = 1 := by kernel_rfl
theorem cellsStr1 : Tryd.prog.cellsOf 9 = 1 := by kernel_rfl
theorem atSomeL {α : Type} {l : List α} {i n : Nat} (hl : l.length = n) (hi : i < n) : ∃ y, l[i]? = some y := ⟨l[i]'(by omega), List.getElem?_eq_getElem _⟩

theorem openStrsAt {H : Type} {enc : TypeId × Value → H} {W : World} {fuel : Nat} {cs : List Value} {x : DataW H × List MemPlace} (h : DataW.trod enc Tryd.prog W 0 (fun _ => true) true fuel 43 cs = some x) :
    ∃ (A : Option Addr) (n c : Nat) (ts : List ByteArray), cs = [.slice A n c] ∧ HasS W A n ts ∧ n ≤ maxLen ∧ n ≤ c ∧ NilOk A n c ∧ ∀ j, j < ts.length → (wordAt ts j).size ≤ maxLen := by
  rcases open_strings Tryd.underlying43 Tryd.underlying9 cellsStr1 h with ⟨rfl, _⟩ | ⟨a, len, cap, ss, rfl, _, hl, hm, hlen, ex, hc, hsz⟩
  · exact ⟨none, 0, 0, [], rfl, ⟨rfl, fun h => absurd h (by omega)⟩, Nat.zero_le _, Nat.le_refl _, fun _ => ⟨rfl, rfl⟩, fun j hj => absurd hj (by simp)⟩
  · simp only [if_true] at hlen
    refine ⟨some a, len, cap, ss.take len, rfl, ⟨by rw [List.length_take]; omega, fun hn => ⟨a, rfl, ?_, fun k hk => ?_⟩⟩, by omega, hl, (fun e => by cases e), fun j hj => ?_⟩
    · have h0 := World.block_lt_of_cell? W _ (hc 0 (by omega))
      rwa [addBlock] at h0
    · rw [hc k (by omega)]
      simp [wordAt, List.getD, hk]
    · rw [List.length_take] at hj
      have e : wordAt (ss.take len) j = ss[j]'(by omega) := by simp [wordAt, List.getD, show j < len by omega, show j < ss.length by omega]
      rw [e]
      exact hsz _ (List.getElem_mem _)

theorem openLine {H : Type} {enc : TypeId × Value → H} {W : World} {fuel : Nat} {cs : List Value} {x : DataW H × List MemPlace} (h : DataW.trod enc Tryd.prog W 0 (fun _ => true) true fuel 52 cs = some x) :
    ∃ (y : Ln) (P : Option Addr) (m d : Nat), cs = lnCells y P m d ∧ HasS W P m y.parts ∧ m ≤ d ∧ NilOk P m d ∧ BigL y := by
  obtain ⟨xs, n, _, _, hl, hxl, hf⟩ := DataW.trod_struct Tryd.underlying52 h
  rw [cellsLineL] at hl
  have hxl' : xs.length = 7 := hxl
  obtain ⟨y0, e0⟩ := atSomeL hxl' (i := 0) (by omega)
  obtain ⟨y1, e1⟩ := atSomeL hxl' (i := 1) (by omega)
  obtain ⟨y2, e2⟩ := atSomeL hxl' (i := 2) (by omega)
  obtain ⟨y3, e3⟩ := atSomeL hxl' (i := 3) (by omega)
  obtain ⟨y4, e4⟩ := atSomeL hxl' (i := 4) (by omega)
  obtain ⟨y5, e5⟩ := atSomeL hxl' (i := 5) (by omega)
  obtain ⟨y6, e6⟩ := atSomeL hxl' (i := 6) (by omega)
  have f0 : DataW.trod enc Tryd.prog W 0 (fun _ => true) true n 3 ((cs.drop 0).take (Tryd.prog.cellsOf 3)) = some y0 := (hf 0 _ rfl).trans e0
  have f1 : DataW.trod enc Tryd.prog W 0 (fun _ => true) true n 9 ((cs.drop 1).take (Tryd.prog.cellsOf 9)) = some y1 := (hf 1 _ rfl).trans e1
  have f2 : DataW.trod enc Tryd.prog W 0 (fun _ => true) true n 9 ((cs.drop 2).take (Tryd.prog.cellsOf 9)) = some y2 := (hf 2 _ rfl).trans e2
  have f3 : DataW.trod enc Tryd.prog W 0 (fun _ => true) true n 43 ((cs.drop 3).take (Tryd.prog.cellsOf 43)) = some y3 := (hf 3 _ rfl).trans e3
  have f4 : DataW.trod enc Tryd.prog W 0 (fun _ => true) true n 3 ((cs.drop 4).take (Tryd.prog.cellsOf 3)) = some y4 := (hf 4 _ rfl).trans e4
  have f5 : DataW.trod enc Tryd.prog W 0 (fun _ => true) true n 3 ((cs.drop 5).take (Tryd.prog.cellsOf 3)) = some y5 := (hf 5 _ rfl).trans e5
  have f6 : DataW.trod enc Tryd.prog W 0 (fun _ => true) true n 3 ((cs.drop 6).take (Tryd.prog.cellsOf 3)) = some y6 := (hf 6 _ rfl).trans e6
  rw [cellsInt] at f0 f4 f5 f6
  rw [cellsStr1] at f1 f2
  rw [cellsStrs] at f3
  obtain ⟨z0, h0, _, w0⟩ := DataW.trod_int Tryd.underlying3 f0
  obtain ⟨z1, h1, _, w1⟩ := DataW.trod_string Tryd.underlying9 f1
  obtain ⟨z2, h2, _, w2⟩ := DataW.trod_string Tryd.underlying9 f2
  obtain ⟨P, m, d, ts, h3, hS, hm, hmd, hN, hB⟩ := openStrsAt f3
  obtain ⟨z4, h4, _, w4⟩ := DataW.trod_int Tryd.underlying3 f4
  obtain ⟨z5, h5, _, w5⟩ := DataW.trod_int Tryd.underlying3 f5
  obtain ⟨z6, h6, _, w6⟩ := DataW.trod_int Tryd.underlying3 f6
  match cs, hl with
  | [a, b, c, e, f, g, i], _ =>
    simp at h0 h1 h2 h3 h4 h5 h6
    subst h0 h1 h2 h3 h4 h5 h6
    exact ⟨⟨z0, z1, z2, ts, z4, z5, z6⟩, P, m, d, rfl, hS, hmd, hN, ⟨w1, w2, by show ts.length ≤ _; rw [hS.1]; exact hm, hB, I64.of w0, I64.of w4, I64.of w5, I64.of w6⟩⟩

theorem openLs {H : Type} {enc : TypeId × Value → H} {W : World} {base : Nat} {v : Value} {d : DataW H} {ps : List MemPlace} (hv : Value.okWide Tryd.prog W .any base 22 v)
    (h : DataW.Trod enc Tryd.prog W 0 (fun _ => true) true 22 v d ps) :
    ∃ (A : Option Addr) (n c : Nat) (ls : List Ln), v = .slice A n c ∧ HasL W A n ls ∧ n ≤ maxLen ∧ n ≤ c ∧ NilOk A n c ∧ ∀ j, j < n → BigL (lnAt ls j) := by
  obtain ⟨fuel, hf⟩ := h
  obtain ⟨a0, n0, c0, rfl⟩ := okWide_slice Tryd.underlying22 hv
  have hcs : (Value.slice a0 n0 c0).cells.toList = [.slice a0 n0 c0] := rfl
  rw [hcs] at hf
  rcases open_slice Tryd.underlying22 hf with ⟨e, _⟩ | ⟨a, len, cap, m, n, D, Pl, e, _, hlc, hcm, hm, _, hel⟩
  · exact ⟨none, 0, 0, [], by simpa using e, ⟨rfl, fun h => absurd h (by omega)⟩, Nat.zero_le _, Nat.le_refl _, fun _ => ⟨rfl, rfl⟩, fun j hj => absurd hj (by omega)⟩
  · simp only [if_true] at hm
    subst hm
    have hg : ∀ i, i < len → ∃ (y : Ln) (P : Option Addr) (p q : Nat), LnAt W (a.add (i * 7)) y P p q ∧ HasS W P p y.parts ∧ p ≤ q ∧ NilOk P p q ∧ BigL y := by
      intro i hi
      obtain ⟨cs', hc, ht⟩ := hel i (by omega)
      rw [cellsLineL] at hc
      obtain ⟨y, P, p, q, rfl, hS, hpq, hN, hB⟩ := openLine ht
      obtain ⟨_, _, hcell⟩ := World.cells?_some hc
      refine ⟨y, P, p, q, ⟨?_, hcell 1 (by omega), hcell 2 (by omega), hcell 3 (by omega), hcell 4 (by omega), hcell 5 (by omega), hcell 6 (by omega)⟩, hS, hpq, hN, hB⟩
      have := hcell 0 (by omega)
      simpa [Addr.add, lnCells] using this
    refine ⟨some a, len, m, (List.range len).map fun i => if hi : i < len then Classical.choose (hg i hi) else ln0, by simpa using e, ⟨by simp, fun hn => ⟨a, rfl, ?_, fun k hk => ?_⟩⟩, by omega, hlc, (fun e => by cases e), ?_⟩
    · obtain ⟨y, P, p, q, h0, _⟩ := hg 0 hn
      have h1 := World.block_lt_of_cell? W _ h0.c0
      rwa [addBlock] at h1
    · have e : lnAt ((List.range len).map fun i => if hi : i < len then Classical.choose (hg i hi) else ln0) k = Classical.choose (hg k hk) := by simp [lnAt, List.getD, hk]
      rw [e]
      obtain ⟨P, p, q, h1, h2, h3, h4, _⟩ := Classical.choose_spec (hg k hk)
      exact ⟨P, p, q, h1, h2, h3, h4⟩
    · intro k hk
      have e : lnAt ((List.range len).map fun i => if hi : i < len then Classical.choose (hg i hi) else ln0) k = Classical.choose (hg k hk) := by simp [lnAt, List.getD, hk]
      rw [e]
      obtain ⟨P, p, q, _, _, _, _, hB⟩ := Classical.choose_spec (hg k hk)
      exact hB

end Go.Proofs.YtcbofogmfelpkaaDoor
