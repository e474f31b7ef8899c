/- Programs as mathematics, as the model has them: names, places of names, widths of lines, valid programs. -/
import Derived.Test.YtcbofogmfelpkaaDoorLn1
import Derived.Test.YtcbofogmfelpkaaDoorBits1
namespace Go.Proofs.YtcbofogmfelpkaaDoor
open Go Go.RowKit
set_option maxRecDepth 100000

def lowB (x : UInt8) : Bool := decide (97 ≤ x.toNat ∧ x.toNat ≤ 122)
/-- A name: 1 to 6 small letters. -/
def nameOk (s : ByteArray) : Bool := s.data.toList.all lowB && decide (1 ≤ s.size ∧ s.size ≤ 6)
def gives (name : ByteArray) (x : Ln) : Bool := decide (x.kind ≠ 6) && same x.name name
/-- The place of the line that gives a name, -1 if there is none. -/
def findL (ls : List Ln) (name : ByteArray) : Int := if ls.findIdx (gives name) < ls.length then (ls.findIdx (gives name) : Int) else -1
def partsK (k : Int) : Int := if k = 3 then 2 else if k = 4 ∨ k = 6 then 1 else if k = 5 then 3 else 0
def opB (j : Nat) : ByteArray := match j with
  | 0 => ⟨#[43]⟩ | 1 => ⟨#[45]⟩ | 2 => ⟨#[42]⟩ | 3 => ⟨#[60]⟩ | 4 => ⟨#[61]⟩ | 5 => ⟨#[38]⟩ | 6 => ⟨#[124]⟩ | 7 => ⟨#[94]⟩ | _ => ByteArray.empty
/-- The first operation with a word, 8 if there is none. -/
def opIx (s : ByteArray) : Nat := (List.range 8).findIdx fun j => same (opB j) s
def twoW (op : ByteArray) (a b : Int) : Int :=
  if a ≠ b ∨ opIx op = 8 ∨ (opIx op = 2 ∧ 10 < 2 * a) then 0 else if opIx op = 2 then 2 * a else if opIx op = 3 ∨ opIx op = 4 then 1 else a
/-- The widths of the parts, by the lines before. -/
def partWs (pre : List Ln) (ws : List Int) (ps : List ByteArray) : List Int := ps.map fun p => ws.getD (findL pre p).toNat 0
/-- The fields that its kind doesn't name are empty, and the parts are as many as they must be. -/
def fieldsOk (x : Ln) : Bool := (decide (x.kind = 6) == false || same x.name ByteArray.empty) && (decide (x.kind = 3) || same x.op ByteArray.empty) && decide ((x.kind = 1 ∨ x.party = 0) ∧ (x.kind = 1 ∨ x.kind = 2 ∨ x.width = 0) ∧ (x.kind = 2 ∨ x.value = 0) ∧ (x.parts.length : Int) = partsK x.kind)
def widthK (x : Ln) (w : List Int) : Int :=
  if x.kind = 1 then (if (0 ≤ x.party ∧ x.party ≤ 1) ∧ 1 ≤ x.width ∧ x.width ≤ 10 then x.width else 0)
  else if x.kind = 2 then (if (1 ≤ x.width ∧ x.width ≤ 10) ∧ 0 ≤ x.value ∧ x.value ≤ 2 ^ x.width.toNat - 1 then x.width else 0)
  else if x.kind = 3 then twoW x.op (w.getD 0 0) (w.getD 1 0)
  else if x.kind = 4 ∨ x.kind = 6 then w.getD 0 0
  else if x.kind = 5 then (if w.getD 0 0 = 1 ∧ w.getD 1 0 = w.getD 2 0 then w.getD 1 0 else 0)
  else 0
/-- The width of a line behind others with widths ws, 0 if it is not valid. -/
def widthL (pre : List Ln) (ws : List Int) (x : Ln) : Int :=
  if x.parts.all (fun p => decide (0 ≤ findL pre p)) = false then 0
  else if x.kind ≠ 6 ∧ (nameOk x.name = false ∨ 0 ≤ findL pre x.name) then 0
  else if fieldsOk x = false then 0
  else widthK x (partWs pre ws x.parts)
/-- The widths of the first k lines. -/
def widthsTo (ls : List Ln) : Nat → List Int
  | 0 => []
  | k + 1 => widthsTo ls k ++ [widthL (ls.take k) (widthsTo ls k) (lnAt ls k)]
def widths (ls : List Ln) : List Int := widthsTo ls ls.length
theorem widthsTo_length (ls : List Ln) : ∀ k, (widthsTo ls k).length = k
  | 0 => rfl
  | k + 1 => by simp [widthsTo, widthsTo_length ls k]
def inputsOf (p : Int) (ls : List Ln) : List Int := (ls.filter fun x => decide (x.kind = 1 ∧ x.party = p)).map (·.width)
/-- Of a list with an element a line, those of the results. -/
def outsOf (ls : List Ln) (zs : List Int) : List Int := ((List.range ls.length).filter fun k => decide ((lnAt ls k).kind = 6)).map fun k => zs.getD k 0
def goodP (ls : List Ln) : Bool :=
  decide (ls.length ≤ 30) && allIn 1 10 (widths ls) && decide ((inputsOf 0 ls).sum ≤ 20) && decide ((inputsOf 1 ls).sum ≤ 20) && decide ((outsOf ls (widths ls)).length ≤ 10)
def m_IsProgram (ls : List Ln) : Bool := goodP ls

/-! ## lemmas -/
theorem gives_iff (name : ByteArray) (x : Ln) : gives name x = true ↔ x.kind ≠ 6 ∧ x.name = name := by
  rw [gives, Bool.and_eq_true, decide_eq_true_eq, same_iff]
theorem findL_hit {ls : List Ln} {name : ByteArray} {k : Nat} (hk : k < ls.length) (h : gives name (lnAt ls k) = true) (hb : ∀ j, j < k → gives name (lnAt ls j) = false) : findL ls name = (k : Int) := by
  have e : ls.findIdx (gives name) = k := by
    have at_ : ∀ j (hj : j < ls.length), lnAt ls j = ls[j] := fun j hj => by simp [lnAt, List.getD_eq_getElem?_getD, List.getElem?_eq_getElem hj]
    rw [List.findIdx_eq hk]
    refine ⟨by rw [← at_ k hk]; exact h, fun j hj => ?_⟩
    rw [← at_ j (by omega)]
    exact hb j hj
  rw [findL, e, if_pos hk]
theorem findL_none {ls : List Ln} {name : ByteArray} (h : ∀ j, j < ls.length → gives name (lnAt ls j) = false) : findL ls name = -1 := by
  have e : ls.findIdx (gives name) = ls.length := by
    rw [List.findIdx_eq_length]
    intro x hx
    obtain ⟨j, hj, rfl⟩ := List.getElem_of_mem hx
    have := h j hj
    simpa [lnAt, List.getD_eq_getElem?_getD, List.getElem?_eq_getElem hj] using this
  rw [findL, e, if_neg (by omega)]
theorem findL_range (ls : List Ln) (name : ByteArray) : -1 ≤ findL ls name ∧ findL ls name < (ls.length : Int) ∨ findL ls name = -1 := by
  unfold findL
  split
  · exact .inl ⟨by omega, by omega⟩
  · exact .inr rfl
theorem opIx_le (s : ByteArray) : opIx s ≤ 8 := by
  have := List.findIdx_le_length (p := fun j => same (opB j) s) (xs := List.range 8)
  simpa [opIx] using this
theorem twoW_range {op : ByteArray} {a b : Int} (h : 0 ≤ a ∧ a ≤ 10) : 0 ≤ twoW op a b ∧ twoW op a b ≤ 10 := by
  unfold twoW
  split
  · omega
  · split
    · omega
    · split <;> omega
theorem widthK_range {x : Ln} {w : List Int} (h : ∀ j, 0 ≤ w.getD j 0 ∧ w.getD j 0 ≤ 10) : 0 ≤ widthK x w ∧ widthK x w ≤ 10 := by
  unfold widthK
  have h0 := h 0
  have h1 := h 1
  split
  · split <;> omega
  · split
    · split <;> omega
    · split
      · exact twoW_range h0
      · split
        · exact h0
        · split
          · split
            · exact h1
            · omega
          · omega
theorem getD_map_range {α : Type} {l : List α} {f : α → Int} {b : Int} (hb : 0 ≤ b) (h : ∀ x ∈ l, 0 ≤ f x ∧ f x ≤ b) (j : Nat) : 0 ≤ (l.map f).getD j 0 ∧ (l.map f).getD j 0 ≤ b := by
  by_cases hj : j < l.length
  · have e : (l.map f).getD j 0 = f l[j] := by simp [List.getD_eq_getElem?_getD, List.getElem?_eq_getElem hj]
    rw [e]
    exact h _ (List.getElem_mem hj)
  · have e : (l.map f).getD j 0 = 0 := by simp [List.getD_eq_getElem?_getD, List.getElem?_eq_none (show l.length ≤ j by omega)]
    rw [e]
    omega
theorem widthL_range {pre : List Ln} {ws : List Int} {x : Ln} (h : ∀ j, 0 ≤ ws.getD j 0 ∧ ws.getD j 0 ≤ 10) : 0 ≤ widthL pre ws x ∧ widthL pre ws x ≤ 10 := by
  unfold widthL
  split
  · omega
  · split
    · omega
    · split
      · omega
      · exact widthK_range (getD_map_range (by omega) fun p _ => h _)
theorem widthsTo_range (ls : List Ln) : ∀ k j, 0 ≤ (widthsTo ls k).getD j 0 ∧ (widthsTo ls k).getD j 0 ≤ 10
  | 0, j => by simp [widthsTo]
  | k + 1, j => by
    have ih := widthsTo_range ls k
    rw [widthsTo, List.getD_eq_getElem?_getD, List.getElem?_append]
    split
    · rw [← List.getD_eq_getElem?_getD]; exact ih j
    · by_cases e : j - (widthsTo ls k).length = 0
      · rw [e]; simpa using widthL_range ih
      · rw [List.getElem?_eq_none (by simp; omega)]; simp

end Go.Proofs.YtcbofogmfelpkaaDoor
