/- The text of a valid circuit, as lines and words, and that both readers make the circuit of it again. Mathematics. -/
import Derived.Test.YtibaiajanggbdaaGreatDoorCirP6
import Derived.Test.YtibaiajanggbdaaGreatDoorCirQ4
namespace Go.Proofs.YtibaiajanggbdaaGreatDoor
open Go Go.RowKit
set_option maxRecDepth 100000

/-- Bytes that are neither blanks nor ends of lines. -/
def Plain (p : List UInt8) : Prop := ∀ x ∈ p, 33 ≤ x.toNat
theorem Plain.free32 {p : List UInt8} (h : Plain p) : Free 32 p := fun x hx e => by
  have := h x hx
  rw [e] at this
  exact absurd this (by decide)
theorem Plain.free10 {p : List UInt8} (h : Plain p) : Free 10 p := fun x hx e => by
  have := h x hx
  rw [e] at this
  exact absurd this (by decide)
theorem join_free {w : List UInt8} {ws : List (List UInt8)} (h : Plain w) (hs : ∀ q ∈ ws, Plain q) : Free 10 (joinL 32 (w :: ws)) := by
  intro x hx
  rw [joinL, List.mem_append] at hx
  rcases hx with hx | hx
  · exact h.free10 x hx
  · obtain ⟨q, hq, hxq⟩ := List.mem_flatMap.1 hx
    rcases List.mem_cons.1 hxq with rfl | hxq
    · decide
    · exact (hs q hq).free10 x hxq
/-- The library's pieces of a text made of free pieces. -/
theorem pieces_join {c : UInt8} {p : List UInt8} {qs : List (List UInt8)} (hp : Free c p) (hq : ∀ q ∈ qs, Free c q) : piecesB c (ofL (joinL c (p :: qs))) = (p :: qs).map ofL := by
  refine pieces_of ?_
  rw [piecesB, Lib.splitB_data]
  have e : Lib.countB (ofL (joinL c (p :: qs))) ⟨#[c]⟩ = Lib.count (joinL c (p :: qs)) [c] := by
    show Lib.count (ofL (joinL c (p :: qs))).data.toList [c] = _
    rw [data_ofL]
  rw [e, data_ofL]
  exact split_join hp hq
theorem words_join {p : List UInt8} {qs : List (List UInt8)} (hp : Plain p) (hq : ∀ q ∈ qs, Plain q) : wordsOf (ofL (joinL 32 (p :: qs))) = (p :: qs).map ofL := by
  rw [wordsOf, data_ofL, cutL_join hp.free32 (fun q h => (hq q h).free32)]

/-! ## the words of a circuit's text -/
def numW (i : Int) : List UInt8 := bytesL (numL i.toNat)
def gateW (g : Ga) : List (List UInt8) := bytesL (kindL g.1) :: (partsOf g).map numW
def headW (C : Ci) : List (List UInt8) := [bytesL [99, 105, 114, 99, 117, 105, 116], numW C.in0, numW C.in1]
def outsW (C : Ci) : List (List UInt8) := bytesL [111, 117, 116, 115] :: C.os.map numW
def linesW (C : Ci) : List (List UInt8) := joinL 32 (headW C) :: (C.gs.map (fun g => joinL 32 (gateW g)) ++ [joinL 32 (outsW C)])

theorem numW_plain (i : Int) : Plain (numW i) := fun x hx => by
  have h := (valL_num i.toNat).2 x hx
  simp only [digitB, decide_eq_true_eq] at h
  omega
theorem kindW_plain (k : Int) : Plain (bytesL (kindL k)) := by
  unfold kindL
  split
  · intro x hx; simp [bytesL] at hx; rcases hx with rfl | rfl | rfl <;> decide
  · split
    · intro x hx; simp [bytesL] at hx; rcases hx with rfl | rfl | rfl <;> decide
    · split
      · intro x hx; simp [bytesL] at hx; rcases hx with rfl | rfl | rfl <;> decide
      · intro x hx; simp [bytesL] at hx; rcases hx with rfl | rfl | rfl <;> decide
theorem circW_plain : Plain (bytesL [99, 105, 114, 99, 117, 105, 116]) := by
  intro x hx; simp [bytesL] at hx; rcases hx with rfl | rfl | rfl | rfl | rfl | rfl | rfl <;> decide
theorem outsW_plain : Plain (bytesL [111, 117, 116, 115]) := by
  intro x hx; simp [bytesL] at hx; rcases hx with rfl | rfl | rfl | rfl <;> decide
theorem nums_plain (is : List Int) : ∀ q ∈ is.map numW, Plain q := fun q hq => by
  obtain ⟨i, _, rfl⟩ := List.mem_map.1 hq
  exact numW_plain i

theorem nums_bytes (is : List Int) : bytesL (numsL is) = (is.map numW).flatMap fun q => 32 :: q := by
  induction is with
  | nil => rfl
  | cons i is ih =>
    have e : numsL (i :: is) = [32] ++ (numL i.toNat ++ numsL is) := by simp [numsL]
    rw [e, bytesL_append, bytesL_append, ih]
    rfl
theorem gate_bytes (g : Ga) : bytesL (gateL g) = joinL 32 (gateW g) ++ [10] := by
  rw [gateL, bytesL_append, bytesL_append, nums_bytes]
  rfl
theorem head_bytes (C : Ci) : bytesL (headL C) = joinL 32 (headW C) ++ [10] := by
  rw [headL, bytesL_append, bytesL_append, bytesL_append, bytesL_append]
  have e1 : bytesL [99, 105, 114, 99, 117, 105, 116, 32] = bytesL [99, 105, 114, 99, 117, 105, 116] ++ [32] := rfl
  have e2 : bytesL [32] = [32] := rfl
  have e3 : bytesL [10] = [10] := rfl
  rw [e1, e2, e3]
  simp [joinL, headW, numW]
theorem gates_bytes (C : Ci) : ∀ k, k ≤ C.gs.length → bytesL (gatesL C k) = (C.gs.take k).flatMap fun g => joinL 32 (gateW g) ++ [10] := by
  intro k
  induction k with
  | zero => intro _; rfl
  | succ k ih =>
    intro hk
    rw [gatesL, bytesL_append, ih (by omega), gate_bytes, List.take_add_one, List.getElem?_eq_getElem (by omega), Option.toList_some, List.flatMap_append]
    simp [List.getD_eq_getElem?_getD, List.getElem?_eq_getElem (show k < C.gs.length by omega)]
theorem shift10 {α : Type} (f : α → List UInt8) (l : List α) (r : List UInt8) : [10] ++ (l.flatMap (fun x => f x ++ [10]) ++ r) = (l.flatMap fun x => 10 :: f x) ++ ([10] ++ r) := by
  induction l with
  | nil => rfl
  | cons x l ih =>
    rw [List.flatMap_cons, List.flatMap_cons]
    simp only [List.append_assoc, List.cons_append, List.nil_append] at ih ⊢
    rw [ih]
theorem text_bytes (C : Ci) : bytesL (textL C) = joinL 10 (linesW C) ++ [10] := by
  rw [textL, bytesL_append, bytesL_append, bytesL_append, bytesL_append, head_bytes, gates_bytes C _ (Nat.le_refl _), List.take_length, nums_bytes]
  have e3 : bytesL [10] = [10] := rfl
  rw [e3]
  have h := shift10 (fun g : Ga => joinL 32 (gateW g)) C.gs (joinL 32 (outsW C) ++ [10])
  have e4 : joinL 32 (outsW C) = bytesL [111, 117, 116, 115] ++ (C.os.map numW).flatMap fun q => 32 :: q := rfl
  have e5 : joinL 10 (linesW C) = joinL 32 (headW C) ++ ((C.gs.flatMap fun g => 10 :: joinL 32 (gateW g)) ++ ([10] ++ joinL 32 (outsW C))) := by
    rw [linesW, joinL, List.flatMap_append, List.flatMap_map]
    simp
  rw [e5]
  rw [e4] at h ⊢
  simp only [List.append_assoc] at h ⊢
  rw [← h]

/-! ## valid gates -/
def Gok (g : Ga) : Prop := ((g.1 = 0 ∨ g.1 = 1) ∧ 0 ≤ g.2.1 ∧ g.2.1 ≤ 999999 ∧ 0 ≤ g.2.2 ∧ g.2.2 ≤ 999999) ∨ (g.1 = 2 ∧ 0 ≤ g.2.1 ∧ g.2.1 ≤ 999999 ∧ g.2.2 = 0) ∨ g = (3, 0, 0)
theorem Good.gok {C : Ci} (h : Good C) : ∀ g ∈ C.gs, Gok g := by
  intro g hg
  obtain ⟨k, hk, rfl⟩ := List.getElem_of_mem hg
  have h1 := h.gate k hk
  have e : C.gs.getD k g0 = C.gs[k] := by simp [List.getD_eq_getElem?_getD, List.getElem?_eq_getElem hk]
  rw [e] at h1
  have hb : C.ins + (k : Int) ≤ 999999 := by
    have := h.a1
    have := h.b1
    have := h.g
    unfold Ci.ins
    omega
  unfold gateOk wireOk at h1
  unfold Gok
  split at h1
  · rename_i hk
    simp only [Bool.and_eq_true, decide_eq_true_eq] at h1
    exact .inl ⟨hk, by omega, by omega, by omega, by omega⟩
  · split at h1
    · rename_i hk
      simp only [Bool.and_eq_true, decide_eq_true_eq] at h1
      exact .inr (.inl ⟨hk, by omega, by omega, by omega⟩)
    · exact .inr (.inr (by simpa using h1))
theorem Good.outN {C : Ci} (h : Good C) : ∀ i ∈ C.os, 0 ≤ i ∧ i ≤ 999999 := by
  intro i hi
  obtain ⟨k, hk, rfl⟩ := List.getElem_of_mem hi
  have h1 := h.out k hk
  have e : C.os.getD k 0 = C.os[k] := by simp [List.getD_eq_getElem?_getD, List.getElem?_eq_getElem hk]
  rw [e] at h1
  have := h.a1
  have := h.b1
  have := h.g
  unfold Ci.wires at h1
  omega

/-! ## the model's reading -/
theorem readB_numW {i : Int} (h : 0 ≤ i ∧ i ≤ 999999) : readB (ofL (numW i)) = i := by
  rw [numW, readB_num _ (by omega)]
  omega
theorem ofL_kind (k : Int) : ofL (bytesL (kindL k)) = kindB k := by rw [kindB_is, bytesL_str]; rfl
theorem same_no {a b : ByteArray} (h : a ≠ b) : same a b = false := by
  cases e : same a b with
  | false => rfl
  | true => exact absurd ((same_iff _ _).1 e) h
theorem kindTo_kind : kindTo (kindB 0) 4 = 0 ∧ kindTo (kindB 1) 4 = 1 ∧ kindTo (kindB 2) 4 = 2 ∧ kindTo (kindB 3) 4 = 3 := by
  simp [kindTo, same, kindB, toList_data]
theorem kind_circ (k : Int) : same (kindB k) circB = false := same_no fun e => by
  have h := congrArg ByteArray.size e
  rw [kindB_size] at h
  exact absurd h (by decide)
theorem kind_outs (k : Int) : same (kindB k) outsB = false := same_no fun e => by
  have h := congrArg ByteArray.size e
  rw [kindB_size] at h
  exact absurd h (by decide)
theorem line_gate (C : Ci) {g : Ga} (h : Gok g) : lineC C ((gateW g).map ofL) = ⟨C.in0, C.in1, C.gs ++ [g], C.os⟩ := by
  obtain ⟨k0, k1, k2, k3⟩ := kindTo_kind
  obtain ⟨k, a, b⟩ := g
  rcases h with ⟨hk, h1, h2, h3, h4⟩ | ⟨hk, h1, h2, h3⟩ | h
  · simp only at hk h1 h2 h3 h4
    have e : (gateW (k, a, b)).map ofL = [kindB k, ofL (numW a), ofL (numW b)] := by
      simp [gateW, partsOf, hk, ofL_kind]
    rw [e, lineC]
    rcases hk with rfl | rfl
    · simp [wordAt, kind_circ, kind_outs, k0, readB_numW ⟨h1, h2⟩, readB_numW ⟨h3, h4⟩]
    · simp [wordAt, kind_circ, kind_outs, k1, readB_numW ⟨h1, h2⟩, readB_numW ⟨h3, h4⟩]
  · simp only at hk h1 h2 h3
    subst hk h3
    have e : (gateW (2, a, 0)).map ofL = [kindB 2, ofL (numW a)] := by
      simp [gateW, partsOf, ofL_kind]
    rw [e, lineC]
    simp [wordAt, kind_circ, kind_outs, k2, readB_numW ⟨h1, h2⟩]
  · obtain ⟨rfl, rfl, rfl⟩ : k = 3 ∧ a = 0 ∧ b = 0 := by simpa using h
    have e : (gateW (3, 0, 0)).map ofL = [kindB 3] := by
      simp [gateW, partsOf, ofL_kind]
    rw [e, lineC]
    simp [wordAt, kind_circ, kind_outs, k3]
theorem line_head {C : Ci} (h : Good C) : lineC ⟨0, 0, [], []⟩ ((headW C).map ofL) = ⟨C.in0, C.in1, [], []⟩ := by
  have e : (headW C).map ofL = [circB, ofL (numW C.in0), ofL (numW C.in1)] := rfl
  have hs : same circB circB = true := (same_iff _ _).2 rfl
  have := h.a0
  have := h.a1
  have := h.b0
  have := h.b1
  rw [e, lineC]
  simp [wordAt, hs, readB_numW (show 0 ≤ C.in0 ∧ C.in0 ≤ 999999 by omega), readB_numW (show 0 ≤ C.in1 ∧ C.in1 ≤ 999999 by omega)]
theorem line_outs {C : Ci} (h : Good C) (D : Ci) : lineC D ((outsW C).map ofL) = ⟨D.in0, D.in1, D.gs, D.os ++ C.os⟩ := by
  have e : (outsW C).map ofL = outsB :: (C.os.map numW).map ofL := rfl
  have hs : same outsB outsB = true := (same_iff _ _).2 rfl
  have hn : same outsB circB = false := same_no fun e => by
    have h := congrArg ByteArray.size e
    exact absurd h (by decide)
  have hr : ((C.os.map numW).map ofL).map readB = C.os := by
    rw [List.map_map, List.map_map]
    have : C.os.map ((readB ∘ ofL) ∘ numW) = C.os.map id := List.map_congr_left fun i hi => readB_numW (h.outN i hi)
    rw [this, List.map_id]
  rw [e, lineC]
  have w0 : wordAt (outsB :: (C.os.map numW).map ofL) 0 = outsB := rfl
  rw [w0, hn, hs, Bool.false_and, if_neg (by simp), if_pos rfl, List.drop_one, List.tail_cons, hr]
theorem gates_fold (gs : List Ga) (h : ∀ g ∈ gs, Gok g) : ∀ C : Ci, (gs.map fun g => ofL (joinL 32 (gateW g))).foldl (fun C l => lineC C (wordsOf l)) C = ⟨C.in0, C.in1, C.gs ++ gs, C.os⟩ := by
  induction gs with
  | nil => intro C; simp
  | cons g gs ih =>
    intro C
    have hw : wordsOf (ofL (joinL 32 (gateW g))) = (gateW g).map ofL := words_join (kindW_plain _) (nums_plain _)
    rw [List.map_cons, List.foldl_cons, hw, line_gate C (h g (by simp)), ih (fun q hq => h q (by simp [hq]))]
    simp
theorem lines_free (C : Ci) : Free 10 (joinL 32 (headW C)) ∧ ∀ q ∈ C.gs.map (fun g => joinL 32 (gateW g)) ++ [joinL 32 (outsW C)], Free 10 q := by
  refine ⟨join_free circW_plain fun q hq => ?_, fun q hq => ?_⟩
  · simp at hq
    rcases hq with rfl | rfl <;> exact numW_plain _
  · rcases List.mem_append.1 hq with hq | hq
    · obtain ⟨g, _, rfl⟩ := List.mem_map.1 hq
      exact join_free (kindW_plain _) (nums_plain _)
    · obtain rfl := List.mem_singleton.1 hq
      exact join_free outsW_plain (nums_plain _)
/-- The model reads the text of a valid circuit as this circuit. -/
theorem mRead_text {C : Ci} (h : Good C) : mRead (strOfNums (textL C)) = C := by
  obtain ⟨f1, f2⟩ := lines_free C
  have hl : linesOf (strOfNums (textL C)) = (linesW C ++ [[]]).map ofL := by
    rw [linesOf, bytesL_data, text_bytes]
    have e : joinL 10 (linesW C) ++ [10] = joinL 10 (joinL 32 (headW C) :: ((C.gs.map (fun g => joinL 32 (gateW g)) ++ [joinL 32 (outsW C)]) ++ [[]])) := by
      rw [linesW, joinL, joinL, List.flatMap_append]
      simp
    rw [e, cutL_join f1 (fun q hq => ?_)]
    · rfl
    · rcases List.mem_append.1 hq with hq | hq
      · exact f2 q hq
      · obtain rfl := List.mem_singleton.1 hq
        intro x hx; cases hx
  have hh : wordsOf (ofL (joinL 32 (headW C))) = (headW C).map ofL := words_join circW_plain fun q hq => by
    simp at hq
    rcases hq with rfl | rfl <;> exact numW_plain _
  have ho : wordsOf (ofL (joinL 32 (outsW C))) = (outsW C).map ofL := words_join outsW_plain (nums_plain _)
  have he : wordsOf (ofL []) = [ofL []] := by rw [wordsOf, data_ofL]; rfl
  rw [mRead, readTo, List.take_length, hl, linesW]
  simp only [List.cons_append, List.map_cons, List.foldl_cons, List.map_append, List.foldl_append, List.map_nil, List.foldl_nil, List.map_map]
  rw [hh, line_head h]
  have hg := gates_fold C.gs h.gok ⟨C.in0, C.in1, [], []⟩
  have e : (ofL ∘ fun g => joinL 32 (gateW g)) = fun g => ofL (joinL 32 (gateW g)) := rfl
  rw [e, hg, ho, line_outs h, he, lineC_empty]
  simp

/-! ## the program's reading -/
theorem pNum_numW {i : Int} (h : 0 ≤ i ∧ i ≤ 999999) : pNum (ofL (numW i)) = some i := by
  rw [numW, pNum_num _ (by omega)]
  congr 1
  omega
theorem pNums_num {is : List Int} (h : ∀ i ∈ is, 0 ≤ i ∧ i ≤ 999999) : pNums ((is.map numW).map ofL) = (is, true) := by
  have hj : ∀ j (hj : j < is.length), pNum (wordAt ((is.map numW).map ofL) j) = some is[j] := fun j hj => by
    have e : wordAt ((is.map numW).map ofL) j = ofL (numW is[j]) := by simp [wordAt, List.getD_eq_getElem?_getD, List.getElem?_eq_getElem hj]
    rw [e, pNum_numW (h _ (List.getElem_mem hj))]
  have hl : ((is.map numW).map ofL).length = is.length := by simp
  rw [pNums, okN_yes (fun j h => by rw [hj j (by omega)]; rfl), if_pos rfl, hl]
  congr 1
  refine Eq.trans (mapTo_eq fun k hk => ?_) (list_eq_mapTo is).symm
  rw [numOf, hj k hk]
  simp [List.getD_eq_getElem?_getD, List.getElem?_eq_getElem hk]
theorem pLine_join {w : List UInt8} {is : List Int} (hw : Plain w) (h : ∀ i ∈ is, 0 ≤ i ∧ i ≤ 999999) : pLine (ofL (joinL 32 (w :: is.map numW))) = (ofL w, is, true) := by
  have e := pieces_join hw.free32 (fun q hq => (nums_plain is q hq).free32)
  rw [pLine, e]
  show (ofL w, (pNums ((is.map numW).map ofL)).1, (pNums ((is.map numW).map ofL)).2) = _
  rw [pNums_num h]
theorem valTo_kind : (valTo (kindB 0) 4 = 0 ∧ valTo (kindB 1) 4 = 1 ∧ valTo (kindB 2) 4 = 2 ∧ valTo (kindB 3) 4 = 3) ∧ hasTo (kindB 0) 4 = true ∧ hasTo (kindB 1) 4 = true ∧ hasTo (kindB 2) 4 = true ∧ hasTo (kindB 3) 4 = true := by
  simp [valTo, hasTo, kindB]
theorem gateR_join {g : Ga} (h : Gok g) : gateR (ofL (joinL 32 (gateW g))) = (g, true) := by
  obtain ⟨⟨v0, v1, v2, v3⟩, u0, u1, u2, u3⟩ := valTo_kind
  obtain ⟨k, a, b⟩ := g
  have hp : ∀ i ∈ partsOf (k, a, b), 0 ≤ i ∧ i ≤ 999999 := by
    intro i hi
    rcases h with ⟨hk, h1, h2, h3, h4⟩ | ⟨hk, h1, h2, h3⟩ | h
    · simp only at hk h1 h2 h3 h4
      simp [partsOf, hk] at hi
      rcases hi with rfl | rfl <;> constructor <;> assumption
    · simp only at hk h1 h2 h3
      simp [partsOf, hk] at hi
      subst hi
      exact ⟨h1, h2⟩
    · obtain ⟨rfl, rfl, rfl⟩ : k = 3 ∧ a = 0 ∧ b = 0 := by simpa using h
      simp [partsOf] at hi
  have e := pLine_join (kindW_plain k) hp
  have e2 : joinL 32 (gateW (k, a, b)) = joinL 32 (bytesL (kindL k) :: (partsOf (k, a, b)).map numW) := rfl
  rw [gateR, e2, e]
  simp only [ofL_kind, Bool.true_and]
  rcases h with ⟨hk, _⟩ | ⟨hk, _, _, hb⟩ | h
  · simp only at hk
    rcases hk with rfl | rfl
    · simp [partsOf, v0, u0]
    · simp [partsOf, v1, u1]
  · simp only at hk hb
    subst hk hb
    simp [partsOf, v2, u2]
  · obtain ⟨rfl, rfl, rfl⟩ : k = 3 ∧ a = 0 ∧ b = 0 := by simpa using h
    simp [partsOf, v3, u3]
theorem pGates_join {gs : List Ga} (h : ∀ g ∈ gs, Gok g) : pGates (gs.map fun g => ofL (joinL 32 (gateW g))) = (gs, true) := by
  have h1 : (gs.map fun g => ofL (joinL 32 (gateW g))).all (fun l => (gateR l).2) = true := by
    rw [List.all_eq_true]
    intro l hl
    obtain ⟨g, hg, rfl⟩ := List.mem_map.1 hl
    rw [gateR_join (h g hg)]
  rw [pGates, if_pos h1, List.map_map]
  congr 1
  have : gs.map ((fun l => (gateR l).1) ∘ fun g => ofL (joinL 32 (gateW g))) = gs.map id := List.map_congr_left fun g hg => by
    show (gateR (ofL (joinL 32 (gateW g)))).1 = g
    rw [gateR_join (h g hg)]
  rw [this, List.map_id]
/-- The program reads the lines of a valid circuit's text as this circuit. -/
theorem pRead_lines {C : Ci} (h : Good C) : pRead ((linesW C).map ofL) = (C, true) := by
  have l0 : pLine (ofL (joinL 32 (headW C))) = (circB, [C.in0, C.in1], true) := by
    have := h.a0
    have := h.a1
    have := h.b0
    have := h.b1
    exact pLine_join circW_plain (is := [C.in0, C.in1]) fun i hi => by
      simp at hi
      rcases hi with rfl | rfl <;> omega
  have l1 : pLine (ofL (joinL 32 (outsW C))) = (outsB, C.os, true) := pLine_join outsW_plain h.outN
  have e : (linesW C).map ofL = ofL (joinL 32 (headW C)) :: (C.gs.map (fun g => ofL (joinL 32 (gateW g))) ++ [ofL (joinL 32 (outsW C))]) := by
    rw [linesW]
    simp
  have hlen : ((linesW C).map ofL).length = C.gs.length + 2 := by rw [e]; simp
  have w0 : wordAt ((linesW C).map ofL) 0 = ofL (joinL 32 (headW C)) := by rw [e]; rfl
  have w1 : wordAt ((linesW C).map ofL) (((linesW C).map ofL).length - 1) = ofL (joinL 32 (outsW C)) := by
    rw [hlen, e, wordAt, List.getD_eq_getElem?_getD, show C.gs.length + 2 - 1 = C.gs.length + 1 by omega, List.getElem?_cons_succ, List.getElem?_append_right (by simp)]
    simp
  have wm : midL ((linesW C).map ofL) = C.gs.map fun g => ofL (joinL 32 (gateW g)) := by
    rw [midL, hlen, e, List.drop_one, List.tail_cons, List.take_append_of_le_length (by simp), List.take_of_length_le (by simp)]
  have hs : same circB circB = true := (same_iff _ _).2 rfl
  have ho : same outsB outsB = true := (same_iff _ _).2 rfl
  have p0 : pHead ((linesW C).map ofL) = true := by rw [pHead, w0, l0]; simp [hs]
  have p1 : pLast ((linesW C).map ofL) = true := by rw [pLast, w1, l1]; simp [ho]
  rw [pRead, if_neg (by omega), if_neg (by rw [p0]; simp), if_neg (by rw [p1]; simp), w0, w1, wm, l0, l1, pGates_join h.gok]
  rfl
/-- What the program's ParseCircuit answers. -/
def pTrim (s : ByteArray) : ByteArray := ofL (Lib.trimSuffix s.data.toList [10])
def pParse (s : ByteArray) : Ci × Bool :=
  if (pRead (piecesB 10 (pTrim s))).2 = true ∧ gd (pRead (piecesB 10 (pTrim s))).1 = true ∧ strOfNums (textL (pRead (piecesB 10 (pTrim s))).1) = s then ((pRead (piecesB 10 (pTrim s))).1, true) else (⟨0, 0, [], []⟩, false)
theorem pRead_text {C : Ci} (h : Good C) : pRead (piecesB 10 (pTrim (strOfNums (textL C)))) = (C, true) := by
  obtain ⟨f1, f2⟩ := lines_free C
  have ht : pTrim (strOfNums (textL C)) = ofL (joinL 10 (linesW C)) := by
    have hp : Lib.hasSuffix (joinL 10 (linesW C) ++ [10]) [10] = true := by
      rw [Lib.hasSuffix, List.isSuffixOf_iff_suffix]
      exact List.suffix_append _ _
    rw [pTrim, bytesL_data, text_bytes, Lib.trimSuffix, if_pos hp]
    congr 1
    simp
  rw [ht]
  have e : piecesB 10 (ofL (joinL 10 (linesW C))) = (linesW C).map ofL := pieces_join f1 f2
  rw [e]
  exact pRead_lines h
/-- Both answer alike. -/
theorem parse_same (s : ByteArray) : pParse s = m_ParseCircuit s := by
  by_cases h : gd (mRead s) = true ∧ strOfNums (textL (mRead s)) = s
  · have e := pRead_text (gd_yes h.1)
    rw [h.2] at e
    rw [m_ParseCircuit, if_pos h, pParse, e, if_pos ⟨rfl, h⟩]
  · rw [m_ParseCircuit, if_neg h, pParse, if_neg]
    rintro ⟨_, h1, h2⟩
    have e := mRead_text (gd_yes h1)
    rw [h2] at e
    rw [← e] at h1 h2
    exact h ⟨h1, h2⟩

end Go.Proofs.YtibaiajanggbdaaGreatDoor
