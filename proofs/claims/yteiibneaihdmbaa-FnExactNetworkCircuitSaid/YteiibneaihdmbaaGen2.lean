/- Words that several chapters share: a variable's block; lists of strings that read as given or that the call owns; texts compared. No condition beyond what each lemma names. -/
import Derived.Test.YteiibneaihdmbaaGen1
import Derived.Lib.SmallJoins
import Derived.Deep.AppendLies
import Derived.Laws.OwnMore
namespace Go.Proofs.Yteiibneaihdmbaa
open Go Go.RowKit
set_option maxRecDepth 100000

theorem addNone' (g k : Nat) : (⟨g, 0, none⟩ : Addr).add k = ⟨g, k, none⟩ := by simp [Addr.add] <;> omega
theorem addOff' (g i k : Nat) : (⟨g, i, none⟩ : Addr).add k = ⟨g, i + k, none⟩ := by simp [Addr.add] <;> omega

section
variable {w w' : World} {g S T t i : Nat} {cs : Array Value} {v : Value}
/-- Block g holds the cells cs: a variable of the call's own. -/
def Blk (w : World) (g : Nat) (cs : Array Value) (t : TypeId) : Prop := w.heap[g]? = some (.cells cs t (0, 0))
theorem Blk.cell (h : Blk w g cs t) (hv : cs[i]? = some v) : w.cell? ⟨g, i, none⟩ = some v := by rw [← hv]; unfold Blk at h; simp [World.cell?, h]
theorem Blk.free (h : Blk w g cs t) (i : Nat) : w.frozen? ⟨g, i, none⟩ = false := by unfold Blk at h; simp [World.frozen?, h]
theorem Blk.lt (h : Blk w g cs t) : g < w.heap.size := (Array.getElem?_eq_some_iff.1 h).1
theorem Blk.below (h : Blk w g cs t) (hb : Below S w w') (hg : g < S) : Blk w' g cs t := (hb.block g hg).trans h
theorem Blk.below' (h : Blk w g cs t) (hb : Below w.heap.size w w') : Blk w' g cs t := h.below hb h.lt
theorem Blk.grown {row : Option Nat} (h : Blk w g cs t) (hb : w.grownBy w' row) (hne : some g ≠ row) : Blk w' g cs t := (hb.block g h.lt hne).trans h
theorem Blk.alloc (h : Blk w g cs t) (o : Obj) : Blk (w.alloc o) g cs t := h.below' (belowNew w o)
theorem Blk.new (w : World) (cs : Array Value) (t : TypeId) : Blk (w.alloc (.cells cs t)) w.heap.size cs t := by show (w.heap.push _)[w.heap.size]? = _; simp
theorem Blk.newAt {k : Nat} (w : World) (cs : Array Value) (t : TypeId) (hk : k = w.heap.size) : Blk (w.alloc (.cells cs t)) k cs t := by subst hk; exact Blk.new w cs t
theorem Blk.set (h : Blk w g cs t) (i : Nat) (v : Value) : Blk (w.setCell ⟨g, i, none⟩ v) g (cs.setIfInBounds i v) t := by
  exact Go.Joins.block_setCell h v
theorem Blk.other {b : Nat} (h : Blk w g cs t) (hne : b ≠ g) (i : Nat) (v : Value) : Blk (w.setCell ⟨b, i, none⟩ v) g cs t :=
  (Below.heap_setCell w ⟨b, i, none⟩ v g (fun e => hne e.symm)).trans h
theorem Blk.four {w : World} {g : Nat} {a b c d : Value} {t : TypeId} (h : Blk w g #[a, b, c, d] t) : w.cell? ⟨g, 0, none⟩ = some a ∧ w.cell? ⟨g, 1, none⟩ = some b ∧ w.cell? ⟨g, 2, none⟩ = some c ∧ w.cell? ⟨g, 3, none⟩ = some d :=
  ⟨h.cell (i := 0) rfl, h.cell (i := 1) rfl, h.cell (i := 2) rfl, h.cell (i := 3) rfl⟩
theorem Blk.span (h : Blk w g cs t) (hs : Span S T w w') (hg : g < S) : Blk w' g cs t := (hs.block g h.lt (.inl hg)).trans h
theorem Blk.spanHi (h : Blk w g cs t) (hs : Span S T w w') (hg : T ≤ g) : Blk w' g cs t := (hs.block g h.lt (.inr hg)).trans h
end

set_option maxHeartbeats 400000 in
theorem szIntS_any (A : Option Addr) (n c : Nat) (x : Int) (w : World) (hx0 : 0 ≤ x) (hx : x ≤ 1048576) (hn : (n : Int) ≤ 9223372036854775807) :
    Calls Try.prog 57 #[.slice A n c, .int .i64 x] w fun e w' => e = .returned (.int .i64 (if x - n < 0 then -1 else x - n)) ∧ w = w' := by
  have hw : IntKind.i64.wrap (x - (n : Int)) = x - n := wrapIn (by omega) (by omega)
  by_cases h : x - n < 0
  · rw [if_pos h]
    go_enter Try.func57, Try.ntmps57
    go_wp2
    go_ret
    exact ⟨rfl, rfl⟩
  · rw [if_neg h]
    go_enter Try.func57, Try.ntmps57
    go_wp2
    go_ret
    exact ⟨rfl, rfl⟩

theorem infoStr : (Try.prog.info? 9).map (fun i => (i.zero, i.size, i.bytes)) = some (some (.string ByteArray.empty), 1, 16) := by kernel_rfl

/-- v is a slice of n strings that the call owns, the list ts. -/
def Strs (w : World) (B : Nat) (v : Value) (n : Nat) (ts : List ByteArray) : Prop := ts.length = n ∧ w.ownsRow B 9 1 v n (ts.map Value.string)
theorem Strs.below {w w' : World} {B : Nat} {v : Value} {n : Nat} {ts : List ByteArray} (h : Strs w B v n ts) (hb : Below w.heap.size w w') : Strs w' B v n ts :=
  ⟨h.1, h.2.kept (row := none) ⟨hb.os, hb.tape, hb.output, hb.size, fun k hk _ => hb.block k hk⟩ (by
    cases hv : v.ownBlock with
    | none => exact .inl rfl
    | some g => exact .inr (by simp))⟩
theorem Strs.one (w : World) (B : Nat) (t : ByteArray) (hB : B ≤ w.heap.size) : Strs (w.alloc (.cells #[.string t] 9)) B (.slice (some ⟨w.heap.size, 0, none⟩) 1 1) 1 [t] :=
  ⟨rfl, World.ownsRow_lit w #[.string t] 1 hB (by decide) rfl⟩

/-- What strings.Join asks of the cells. -/
theorem Strs.joins {w : World} {B n : Nat} {v : Value} {ts : List ByteArray} (h : Strs w B v n ts) (hn : 0 < n) :
    ∃ g c, v = .slice (some ⟨g, 0, none⟩) n c ∧ g < w.heap.size ∧ n ≤ c ∧ ∀ (j : Nat) x, ts[j]? = some x → w.cell? ⟨g, 0 + j, none⟩ = some (.string x) := by
  obtain ⟨h1, h2⟩ := h
  have hlt := h2.lt
  obtain ⟨hl, h0 | ⟨g, cap, cur, rfl, hb, hh, hnc, _, _, _⟩⟩ := id h2
  · obtain ⟨rfl, rfl⟩ := h0
    have : (ts.map Value.string).length = 0 * 1 := hl
    simp at this
    subst this
    simp at h1
    omega
  · refine ⟨g, cap, rfl, (hlt g rfl).2, hnc, fun j x hj => ?_⟩
    have hjl : j < ts.length := (List.getElem?_eq_some_iff.1 hj).1
    rw [Nat.zero_add, h2.cellAt j (by omega)]
    simp [hj]

/-- As the model's walk compares texts. -/
def same (a b : ByteArray) : Bool := a.toList == b.toList
def wordAt (ws : List ByteArray) (j : Nat) : ByteArray := ws.getD j ByteArray.empty
theorem wordsAt {w : World} {B n : Nat} {v : Value} {ws : List ByteArray} (h : Strs w B v n ws) (hn : 1 ≤ n) : ∃ g c, v = .slice (some ⟨g, 0, none⟩) n c ∧ g < w.heap.size ∧ n ≤ c ∧ ∀ j, j < n → w.cell? ⟨g, j, none⟩ = some (.string (wordAt ws j)) := by
  obtain ⟨g, c, rfl, hg, hc, hcell⟩ := h.joins (by omega)
  refine ⟨g, c, rfl, hg, hc, fun j hj => ?_⟩
  have hl := h.1
  have := hcell j (wordAt ws j) (by simp [wordAt, List.getElem?_eq_getElem (show j < ws.length by omega)])
  rwa [Nat.zero_add] at this

theorem wordsIn {w : World} {B n g c : Nat} {ws : List ByteArray} (h : Strs w B (.slice (some ⟨g, 0, none⟩) n c) n ws) : ∀ j, j < n → w.cell? ⟨g, j, none⟩ = some (.string (wordAt ws j)) := by
  intro j hj
  obtain ⟨g', c', e, _, _, hc⟩ := wordsAt h (by omega)
  injection e with e1 _ _
  injection e1 with e1
  injection e1 with e1
  subst e1
  exact hc j hj

/-- The slice of n strings at address A reads as ls. -/
def HasS (w : World) (A : Option Addr) (n : Nat) (ls : List ByteArray) : Prop :=
  ls.length = n ∧ (0 < n → ∃ ad : Addr, A = some ad ∧ ad.block < w.heap.size ∧ ∀ k, k < n → w.cell? (ad.add k) = some (.string (wordAt ls k)))
theorem HasS.below {w w' : World} {A : Option Addr} {n : Nat} {ls : List ByteArray} (h : HasS w A n ls) (hb : Below w.heap.size w w') : HasS w' A n ls :=
  ⟨h.1, fun hn => by
    obtain ⟨ad, rfl, hl, hc⟩ := h.2 hn
    have e : w'.heap[ad.block]? = w.heap[ad.block]? := hb.block _ hl
    refine ⟨ad, rfl, by have := hb.size; omega, fun k hk => ?_⟩
    exact (World.cell?_of_block (by rw [addBlock]; exact e)).trans (hc k hk)⟩
theorem HasS.elem {w : World} {A : Option Addr} {n k : Nat} {ls : List ByteArray} (h : HasS w A n ls) (hk : k < n) : ∃ ad : Addr, A = some ad ∧ w.cell? (ad.add k) = some (.string (wordAt ls k)) := by
  obtain ⟨ad, e, _, hc⟩ := h.2 (by omega)
  exact ⟨ad, e, hc k hk⟩

def ofL (l : List UInt8) : ByteArray := ⟨l.toArray⟩
theorem ofL_data (t : ByteArray) : ofL t.data.toList = t := by simp [ofL]
theorem data_ofL (l : List UInt8) : (ofL l).data.toList = l := by simp [ofL]
theorem toList_data (a : ByteArray) : a.toList = a.data.toList := by
  obtain ⟨⟨l⟩⟩ := a
  simp
theorem same_iff (a b : ByteArray) : same a b = true ↔ a = b := by
  rw [same, toList_data, toList_data, beq_iff_eq]
  constructor
  · intro h
    rw [← ofL_data a, h, ofL_data]
  · rintro rfl; rfl

end Go.Proofs.Yteiibneaihdmbaa
