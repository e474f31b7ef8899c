/- A circuit that came in as an argument of an exact law: what it reads as. No condition. -/
import Derived.Test.YtaohgbkhmgfnhaaCir4
import Derived.Test.YtaohgbkhmgfnhaaClose
import Derived.Deep.Slices
namespace Go.Proofs.Ytaohgbkhmgfnhaa
open Go.ChangeShapes Go.WideShapes Go.ChangeAt Go.RowKit Go.Deep
set_option maxRecDepth 100000

theorem cellsGateL : Try.prog.cellsOf 87 = 3 := by kernel_rfl
theorem cellsCircuitL : Try.prog.cellsOf 25 = 4 := by kernel_rfl
theorem cellsGatesL : Try.prog.cellsOf 22 = 1 := by kernel_rfl
theorem cellsIntsL : Try.prog.cellsOf 23 = 1 := by kernel_rfl

/-- A gate all of whose numbers fit 64 bits. -/
def G64 (g : Ga) : Prop := I64 g.1 ∧ I64 g.2.1 ∧ I64 g.2.2

theorem atSome {α : Type} {l : List α} {i n : Nat} (hl : l.length = n) (hi : i < n) : ∃ y, l[i]? = some y := ⟨l[i]'(by omega), List.getElem?_eq_getElem _⟩

theorem openGate {H : Type} {enc : TypeId × Value → H} {W : World} {fuel : Nat} {cs : List Value} {x : DataW H × List MemPlace} (h : DataW.trod enc Try.prog W 0 (fun _ => true) true fuel 87 cs = some x) :
    ∃ g : Ga, cs = [.int .i64 g.1, .int .i64 g.2.1, .int .i64 g.2.2] ∧ G64 g := by
  obtain ⟨xs, n, _, _, hl, hxl, hf⟩ := DataW.trod_struct Try.underlying87 h
  rw [cellsGateL] at hl
  have hxl' : xs.length = 3 := hxl
  obtain ⟨y0, e0⟩ := atSome hxl' (i := 0) (by omega)
  obtain ⟨y1, e1⟩ := atSome hxl' (i := 1) (by omega)
  obtain ⟨y2, e2⟩ := atSome hxl' (i := 2) (by omega)
  have f0 : DataW.trod enc Try.prog W 0 (fun _ => true) true n 3 ((cs.drop 0).take (Try.prog.cellsOf 3)) = some y0 := (hf 0 _ rfl).trans e0
  have f1 : DataW.trod enc Try.prog W 0 (fun _ => true) true n 3 ((cs.drop 1).take (Try.prog.cellsOf 3)) = some y1 := (hf 1 _ rfl).trans e1
  have f2 : DataW.trod enc Try.prog W 0 (fun _ => true) true n 3 ((cs.drop 2).take (Try.prog.cellsOf 3)) = some y2 := (hf 2 _ rfl).trans e2
  rw [cellsInt] at f0 f1 f2
  obtain ⟨z0, h0, _, w0⟩ := DataW.trod_int Try.underlying3 f0
  obtain ⟨z1, h1, _, w1⟩ := DataW.trod_int Try.underlying3 f1
  obtain ⟨z2, h2, _, w2⟩ := DataW.trod_int Try.underlying3 f2
  match cs, hl with
  | [a, b, c], _ =>
    simp at h0 h1 h2
    subst h0 h1 h2
    exact ⟨(z0, z1, z2), rfl, I64.of w0, I64.of w1, I64.of w2⟩

theorem openGates {H : Type} {enc : TypeId × Value → H} {W : World} {fuel : Nat} {cs : List Value} {x : DataW H × List MemPlace} (h : DataW.trod enc Try.prog W 0 (fun _ => true) true fuel 22 cs = some x) :
    ∃ (A : Option Addr) (n c : Nat) (gs : List Ga), cs = [.slice A n c] ∧ HasG W A n gs ∧ n ≤ maxLen ∧ n ≤ c ∧ NilOk A n c ∧ ∀ g ∈ gs, G64 g := by
  rcases open_slice Try.underlying22 h with ⟨rfl, _⟩ | ⟨a, len, cap, m, n, D, Pl, rfl, _, hlc, hcm, hm, _, hel⟩
  · exact ⟨none, 0, 0, [], rfl, ⟨rfl, fun h => absurd h (by omega)⟩, Nat.zero_le _, Nat.le_refl _, fun _ => ⟨rfl, rfl⟩, by simp⟩
  · simp only [if_true] at hm
    subst hm
    have hg : ∀ i, i < len → ∃ g : Ga, (W.cell? (a.add (i * 3)) = some (.int .i64 g.1) ∧ W.cell? ((a.add (i * 3)).add 1) = some (.int .i64 g.2.1) ∧ W.cell? ((a.add (i * 3)).add 2) = some (.int .i64 g.2.2)) ∧ G64 g := by
      intro i hi
      obtain ⟨cs', hc, ht⟩ := hel i (by omega)
      rw [cellsGateL] at hc
      obtain ⟨g, rfl, hw⟩ := openGate ht
      obtain ⟨_, _, hcell⟩ := World.cells?_some hc
      refine ⟨g, ⟨?_, hcell 1 (by omega), hcell 2 (by omega)⟩, hw⟩
      have := hcell 0 (by omega)
      simpa [Addr.add] using this
    refine ⟨some a, len, m, (List.range len).map fun i => if hi : i < len then Classical.choose (hg i hi) else g0, rfl, ⟨by simp, fun hn => ⟨a, rfl, ?_, fun k hk => ?_⟩⟩, by omega, hlc, (fun e => by cases e), ?_⟩
    · obtain ⟨g, ⟨h0, _, _⟩, _⟩ := hg 0 hn
      have h1 := World.block_lt_of_cell? W _ h0
      rwa [addBlock] at h1
    · have e : ((List.range len).map fun i => if hi : i < len then Classical.choose (hg i hi) else g0).getD k g0 = Classical.choose (hg k hk) := by simp [List.getD, hk]
      rw [e]
      exact (Classical.choose_spec (hg k hk)).1
    · intro g hgm
      obtain ⟨i, hi, rfl⟩ := List.mem_map.1 hgm
      have hi' : i < len := by simpa using hi
      rw [dif_pos hi']
      exact (Classical.choose_spec (hg i hi')).2

theorem openIntsAt {H : Type} {enc : TypeId × Value → H} {W : World} {fuel : Nat} {cs : List Value} {x : DataW H × List MemPlace} (h : DataW.trod enc Try.prog W 0 (fun _ => true) true fuel 23 cs = some x) :
    ∃ (A : Option Addr) (n c : Nat) (zs : List Int), cs = [.slice A n c] ∧ Has W A n zs ∧ n ≤ maxLen ∧ n ≤ c ∧ NilOk A n c ∧ ∀ z ∈ zs, I64 z := by
  rcases open_ints Try.underlying23 Try.underlying3 cellsInt h with ⟨rfl, _⟩ | ⟨a, len, cap, zs, rfl, _, hl, hm, hlen, ex, hc, hwf⟩
  · exact ⟨none, 0, 0, [], rfl, Has.nil_, Nat.zero_le _, Nat.le_refl _, fun _ => ⟨rfl, rfl⟩, by simp⟩
  · simp only [if_true] at hlen
    refine ⟨some a, len, cap, zs.take len, rfl, ⟨by rw [List.length_take]; omega, fun hn => ⟨a, rfl, ?_, fun k hk => ?_⟩⟩, by omega, hl, (fun e => by cases e), fun z hz => I64.of (hwf z (List.mem_of_mem_take hz))⟩
    · have h0 := World.block_lt_of_cell? W _ (hc 0 (by omega))
      rwa [addBlock] at h0
    · rw [hc k (by omega)]
      simp [List.getD, hk]

/-- A circuit whose numbers fit 64 bits. -/
def C64 (C : Ci) : Prop := I64 C.in0 ∧ I64 C.in1 ∧ (∀ g ∈ C.gs, G64 g) ∧ ∀ z ∈ C.os, I64 z

theorem openC {H : Type} {enc : TypeId × Value → H} {W : World} {base : Nat} {v : Value} {d : DataW H} {ps : List MemPlace} (hv : Value.okWide Try.prog W .any base 25 v)
    (h : DataW.Trod enc Try.prog W 0 (fun _ => true) true 25 v d ps) : ∃ C : Ci, HasC W v C ∧ C.gs.length ≤ maxLen ∧ C.os.length ≤ maxLen ∧ C64 C := by
  obtain ⟨fuel, hf⟩ := h
  obtain ⟨cs, rfl, hs⟩ := okWide_struct Try.underlying25 hv
  rw [cellsCircuitL] at hs
  have hcs : (Value.agg cs).cells.toList = cs.toList := rfl
  rw [hcs] at hf
  obtain ⟨xs, n, _, _, _, hxl, hfs⟩ := DataW.trod_struct Try.underlying25 hf
  have hxl' : xs.length = 4 := hxl
  obtain ⟨y0, e0⟩ := atSome hxl' (i := 0) (by omega)
  obtain ⟨y1, e1⟩ := atSome hxl' (i := 1) (by omega)
  obtain ⟨y2, e2⟩ := atSome hxl' (i := 2) (by omega)
  obtain ⟨y3, e3⟩ := atSome hxl' (i := 3) (by omega)
  have f0 : DataW.trod enc Try.prog W 0 (fun _ => true) true n 3 ((cs.toList.drop 0).take (Try.prog.cellsOf 3)) = some y0 := (hfs 0 _ rfl).trans e0
  have f1 : DataW.trod enc Try.prog W 0 (fun _ => true) true n 3 ((cs.toList.drop 1).take (Try.prog.cellsOf 3)) = some y1 := (hfs 1 _ rfl).trans e1
  have f2 : DataW.trod enc Try.prog W 0 (fun _ => true) true n 22 ((cs.toList.drop 2).take (Try.prog.cellsOf 22)) = some y2 := (hfs 2 _ rfl).trans e2
  have f3 : DataW.trod enc Try.prog W 0 (fun _ => true) true n 23 ((cs.toList.drop 3).take (Try.prog.cellsOf 23)) = some y3 := (hfs 3 _ rfl).trans e3
  rw [cellsInt] at f0 f1
  rw [cellsGatesL] at f2
  rw [cellsIntsL] at f3
  obtain ⟨z0, h0, _, w0⟩ := DataW.trod_int Try.underlying3 f0
  obtain ⟨z1, h1, _, w1⟩ := DataW.trod_int Try.underlying3 f1
  obtain ⟨G, n, c, gs, h2, hG, hn, hnc, hN, w2⟩ := openGates f2
  obtain ⟨O, m, d, os, h3, hO, hm, hmd, hN', w3⟩ := openIntsAt f3
  obtain ⟨l⟩ := cs
  have hs' : l.length = 4 := hs
  match l, hs' with
  | [a, b, c', d'], _ =>
    simp at h0 h1 h2 h3
    subst h0 h1 h2 h3
    exact ⟨⟨z0, z1, gs, os⟩, ⟨G, n, c, O, m, d, rfl, hG, hO, hnc, hmd, hN, hN'⟩, by rw [hG.1]; exact hn, by rw [hO.1]; exact hm, I64.of w0, I64.of w1, w2, w3⟩

/-- A circuit that the helpers of the exact laws take. -/
def Fit (C : Ci) : Prop := C.gs.length ≤ 1048576 ∧ C.os.length ≤ 1048576 ∧ C64 C

theorem leftFit {C : Ci} {x l : Int} (h : leftOf C x = l) (h0 : ¬ l < 0) (hx : x ≤ 1048576) : C.gs.length ≤ 1048576 ∧ C.os.length ≤ 1048576 ∧ l ≤ x := by
  unfold leftOf at h
  split at h
  · omega
  · split at h
    · omega
    · omega

section
variable {w w' wb wx : World} {v : Value} {C C0 : Ci} {B S T n c g : Nat} {A X : Option Addr} {gs : List Ga} {zs : List Int} {cs : Array Value} {t : TypeId}
/-- A list of the call's own whose marks are written: nothing else has turned. -/
theorem spanOf (hg : w.grownBy w' (blockOf X)) (hX : Own wx B X n c zs) : Span B wx.heap.size w w' :=
  (Span.refl B wx.heap.size w).grown hg (fun k hk => by
    cases X with
    | none => simp [blockOf] at hk
    | some x =>
      have h2 := hX.born x rfl
      simp [blockOf] at hk
      omega)
theorem Blk.span (h : Blk w g cs t) (hs : Span S T w w') (hg : g < S) : Blk w' g cs t := (hs.block g h.lt (.inl hg)).trans h
theorem Blk.spanHi (h : Blk w g cs t) (hs : Span S T w w') (hg : T ≤ g) : Blk w' g cs t := (hs.block g h.lt (.inr hg)).trans h
theorem HasG.span (h : HasG w A n gs) (hs : Span S T w w') (hb : HasG wb A n gs) (hS : wb.heap.size ≤ S) : HasG w' A n gs := by
  refine ⟨h.1, fun hn => ?_⟩
  obtain ⟨ad0, e0, hlt0, _⟩ := hb.2 hn
  have hk : HasG w' A n gs := h.keep hs.size (fun ad e hlt => hs.block _ hlt (.inl (by rw [e0] at e; injection e with e; rw [← e]; omega)))
  exact hk.2 hn
theorem HasC.span (h : HasC w v C) (hs : Span S T w w') (hb : HasC wb v C) (hS : wb.heap.size ≤ S) : HasC w' v C := by
  obtain ⟨G, n, c, O, m, d, rfl, h1, h2, h3⟩ := h
  obtain ⟨G', n', c', O', m', d', e, k1, k2, _⟩ := hb
  injection e with e
  simp at e
  obtain ⟨⟨rfl, rfl, rfl⟩, rfl, rfl, rfl⟩ := e
  exact ⟨G, n, c, O, m, d, rfl, h1.span hs k1 hS, h2.span hs (fun hn ad e => by have := k2.old hn ad e; omega), h3⟩
end

theorem OwnC.kept {w w' : World} {B g : Nat} {v : Value} {C : Ci} (h : OwnC w B v C) (hg : w.grownBy w' (some g)) (hlt : g < B) : OwnC w' B v C := by
  obtain ⟨G, n, c, O, m, d, e, h1, h2⟩ := h
  exact ⟨G, n, c, O, m, d, e, h1.kept hg (fun ad e => by have := (h1.born ad e).1; simp; omega), h2.kept hg (fun ad e => by have := (h2.born ad e).1; simp; omega)⟩

/-- A variable of four cells is written whole. -/
theorem fourSet {w wn : World} {B S g : Nat} {v a b c d z0 z1 z2 z3 : Value} {C : Ci} {t : TypeId} (on : OwnC wn B v C) (zn : Blk wn g #[z0, z1, z2, z3] t) (hlt : g < B) (bn : Below S w wn) (hg : S ≤ g) :
    Blk ((((wn.setCell ⟨g, 0, none⟩ a).setCell ⟨g, 1, none⟩ b).setCell ⟨g, 2, none⟩ c).setCell ⟨g, 3, none⟩ d) g #[a, b, c, d] t ∧
    OwnC ((((wn.setCell ⟨g, 0, none⟩ a).setCell ⟨g, 1, none⟩ b).setCell ⟨g, 2, none⟩ c).setCell ⟨g, 3, none⟩ d) B v C ∧
    Below S w ((((wn.setCell ⟨g, 0, none⟩ a).setCell ⟨g, 1, none⟩ b).setCell ⟨g, 2, none⟩ c).setCell ⟨g, 3, none⟩ d) :=
  ⟨(((zn.set 0 a).set 1 b).set 2 c).set 3 d, on.kept (grown_setCell (grown_setCell (grown_setCell (grown_setCell (World.grownBy.refl _ _) _ _) _ _) _ _) _ _) hlt,
    (((bn.setCell hg _).setCell hg _).setCell hg _).setCell hg _⟩

end Go.Proofs.Ytaohgbkhmgfnhaa
