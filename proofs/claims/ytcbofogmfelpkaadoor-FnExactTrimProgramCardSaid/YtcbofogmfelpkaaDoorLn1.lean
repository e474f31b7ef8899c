/- Lines of programs in memory: a list of lines that reads as given, and one that the call owns. No condition beyond what each lemma names. -/
import Derived.Test.YtcbofogmfelpkaaDoorGen2
namespace Go.Proofs.YtcbofogmfelpkaaDoor
open Go Go.RowKit
set_option maxRecDepth 100000

/-- A line of a program. -/
structure Ln where
  kind : Int
  name : ByteArray
  op : ByteArray
  parts : List ByteArray
  party : Int
  width : Int
  value : Int
def ln0 : Ln := ⟨0, ByteArray.empty, ByteArray.empty, [], 0, 0, 0⟩
def lnAt (ls : List Ln) (k : Nat) : Ln := ls.getD k ln0
/-- The cells of a line whose parts lie at P. -/
def lnCells (x : Ln) (P : Option Addr) (m d : Nat) : List Value := [.int .i64 x.kind, .string x.name, .string x.op, .slice P m d, .int .i64 x.party, .int .i64 x.width, .int .i64 x.value]
/-- The cells from a on are those of the line x. -/
structure LnAt (w : World) (a : Addr) (x : Ln) (P : Option Addr) (m d : Nat) : Prop where
  c0 : w.cell? a = some (.int .i64 x.kind)
  c1 : w.cell? ⟨a.block, a.off + 1, none⟩ = some (.string x.name)
  c2 : w.cell? ⟨a.block, a.off + 2, none⟩ = some (.string x.op)
  c3 : w.cell? ⟨a.block, a.off + 3, none⟩ = some (.slice P m d)
  c4 : w.cell? ⟨a.block, a.off + 4, none⟩ = some (.int .i64 x.party)
  c5 : w.cell? ⟨a.block, a.off + 5, none⟩ = some (.int .i64 x.width)
  c6 : w.cell? ⟨a.block, a.off + 6, none⟩ = some (.int .i64 x.value)
/-- The slice of n lines at address A reads as ls. -/
def HasL (w : World) (A : Option Addr) (n : Nat) (ls : List Ln) : Prop :=
  ls.length = n ∧ (0 < n → ∃ ad : Addr, A = some ad ∧ ad.block < w.heap.size ∧ ∀ k, k < n → ∃ P m d, LnAt w (ad.add (k * 7)) (lnAt ls k) P m d ∧ HasS w P m (lnAt ls k).parts ∧ m ≤ d ∧ NilOk P m d)

section
variable {w w' : World} {A P : Option Addr} {n m d k : Nat} {ls : List Ln} {x : Ln} {a : Addr}
theorem LnAt.keep (h : LnAt w a x P m d) (e : w'.heap[a.block]? = w.heap[a.block]?) : LnAt w' a x P m d := by
  have key : ∀ o, w'.cell? ⟨a.block, o, none⟩ = w.cell? ⟨a.block, o, none⟩ := fun o => World.cell?_of_block e
  exact ⟨(World.cell?_of_block e).trans h.c0, (key _).trans h.c1, (key _).trans h.c2, (key _).trans h.c3, (key _).trans h.c4, (key _).trans h.c5, (key _).trans h.c6⟩
theorem HasS.keep {ts : List ByteArray} (h : HasS w A n ts) (hs : w.heap.size ≤ w'.heap.size) (hk : ∀ ad : Addr, A = some ad → ad.block < w.heap.size → w'.heap[ad.block]? = w.heap[ad.block]?) : HasS w' A n ts :=
  ⟨h.1, fun hn => by
    obtain ⟨ad, rfl, hb, hc⟩ := h.2 hn
    refine ⟨ad, rfl, by omega, fun k hkn => ?_⟩
    have hq : w'.heap[(ad.add k).block]? = w.heap[(ad.add k).block]? := by rw [addBlock]; exact hk ad rfl hb
    exact (World.cell?_of_block hq).trans (hc k hkn)⟩
theorem HasL.below (h : HasL w A n ls) (hb : Below w.heap.size w w') : HasL w' A n ls :=
  ⟨h.1, fun hn => by
    obtain ⟨ad, rfl, hl, hc⟩ := h.2 hn
    refine ⟨ad, rfl, by have := hb.size; omega, fun k hk => ?_⟩
    obtain ⟨P, m, d, h1, h2, h3, h4⟩ := hc k hk
    exact ⟨P, m, d, h1.keep (by rw [addBlock]; exact hb.block _ hl), h2.below hb, h3, h4⟩⟩
theorem HasL.elem (h : HasL w A n ls) (hk : k < n) : ∃ (ad : Addr) (x : Ln) (P : Option Addr) (m d : Nat), A = some ad ∧ LnAt w (ad.add (k * 7)) x P m d ∧ HasS w P m x.parts ∧ m ≤ d ∧ NilOk P m d ∧ Hid (lnAt ls k = x) := by
  obtain ⟨ad, e, _, hc⟩ := h.2 (by omega)
  obtain ⟨P, m, d, h1, h2, h3, h4⟩ := hc k hk
  exact ⟨ad, _, P, m, d, e, h1, h2, h3, h4, rfl⟩
end

/-- A row of the call's own, in blocks from B on and below T, that holds ls; the parts of the k-th line lie at F k, in rows of their own. -/
structure OwnL (w : World) (B T : Nat) (A : Option Addr) (n c : Nat) (ls : List Ln) (F : Nat → Option Addr × Nat × Nat) : Prop where
  len : ls.length = n
  row : ∃ vs : List Value, w.ownsRow B 53 7 (.slice A n c) n vs ∧ ∀ k, k < n → ∀ i, i < 7 → vs[k * 7 + i]? = (lnCells (lnAt ls k) (F k).1 (F k).2.1 (F k).2.2)[i]?
  parts : ∀ k, k < n → Strs w B (.slice (F k).1 (F k).2.1 (F k).2.2) (F k).2.1 (lnAt ls k).parts
  top : ∀ a : Addr, A = some a → a.block < T
  low : ∀ k, k < n → ∀ a : Addr, (F k).1 = some a → a.block < T
  apart : ∀ j k, j < k → k < n → ∀ a b : Addr, (F j).1 = some a → (F k).1 = some b → a.block ≠ b.block

section
variable {w w' : World} {B B' T T' n c m d k : Nat} {A P : Option Addr} {ls : List Ln} {F : Nat → Option Addr × Nat × Nat} {ts : List ByteArray} {vs : List Value}
theorem Strs.mono (h : Strs w B (.slice A n c) n ts) (hB : B' ≤ B) : Strs w B' (.slice A n c) n ts := ⟨h.1, h.2.mono hB⟩
theorem Strs.born (h : Strs w B (.slice A n c) n ts) (a : Addr) (e : A = some a) : B ≤ a.block ∧ a.block < w.heap.size := by
  subst e
  exact h.2.lt a.block rfl
theorem Strs.kept (h : Strs w B (.slice A n c) n ts) {row : Option Nat} (hg : w.grownBy w' row) (hne : ∀ a : Addr, A = some a → some a.block ≠ row) : Strs w' B (.slice A n c) n ts := by
  refine ⟨h.1, h.2.kept hg ?_⟩
  cases A with
  | none => exact .inl rfl
  | some a => exact .inr (hne a rfl)
theorem Strs.nilOk (h : Strs w B (.slice A n c) n ts) : NilOk A n c := by
  intro e
  subst e
  rcases h.2.2 with ⟨hv, h0⟩ | ⟨g, cap, cur, hv, _⟩
  · injection hv with _ _ hc
    exact ⟨h0, hc⟩
  · injection hv with ha
    cases ha
theorem Strs.capLe (h : Strs w B (.slice A n c) n ts) : n ≤ c := by
  rcases h.2.2 with ⟨hv, h0⟩ | ⟨g, cap, cur, hv, _, _, hnc, _⟩
  · omega
  · injection hv with _ _ hc
    omega
theorem Strs.has (h : Strs w B (.slice A n c) n ts) : HasS w A n ts := by
  refine ⟨h.1, fun hn => ?_⟩
  obtain ⟨g, cap, hv, hg, _, hc⟩ := wordsAt h (by omega)
  have hA : A = some ⟨g, 0, none⟩ := by injection hv
  subst hA
  exact ⟨_, rfl, hg, fun k hk => by rw [addNone']; exact hc k hk⟩
theorem Strs.span {S : Nat} (h : Strs w B (.slice A n c) n ts) (hs : Span S T w w') (hT : T ≤ B) : Strs w' B (.slice A n c) n ts := by
  refine ⟨h.1, ?_⟩
  rcases h.2 with ⟨h1, h2⟩
  refine ⟨h1, ?_⟩
  rcases h2 with h2 | ⟨g, cap, cur, e, hb, hg, h5, h6, h7, h8⟩
  · exact .inl h2
  · refine .inr ⟨g, cap, cur, e, hb, ?_, h5, h6, h7, h8⟩
    rw [hs.block g (by have := (Array.getElem?_eq_some_iff.1 hg).1; exact this) (.inr (by omega))]
    exact hg
/-- A row of lines and a row of strings never share a block. -/
theorem rowApart (h1 : w.ownsRow B 53 7 (.slice A n c) n vs) (h2 : Strs w B' (.slice P m d) m ts) : ∀ a b : Addr, A = some a → P = some b → a.block ≠ b.block := by
  rintro a b rfl rfl e
  rcases h1.2 with ⟨hv, _⟩ | ⟨g, cap, cur, hv, _, hg, _⟩
  · cases hv
  · rcases h2.2.2 with ⟨hv2, _⟩ | ⟨g2, cap2, cur2, hv2, _, hg2, _⟩
    · cases hv2
    · injection hv with e1
      injection hv2 with e2
      injection e1 with e1
      injection e2 with e2
      rw [e1, e2] at e
      have e' : g = g2 := e
      subst e'
      rw [hg] at hg2
      injection hg2 with e3
      injection e3 with _ e4
      exact absurd e4 (by decide)
theorem OwnL.nil_ (w : World) (B T : Nat) : OwnL w B T none 0 0 [] (fun _ => (none, 0, 0)) :=
  ⟨rfl, ⟨[], World.ownsRow_nil _ _ _ _, fun k hk => absurd hk (Nat.not_lt_zero _)⟩, fun k hk => absurd hk (Nat.not_lt_zero _), (fun a e => by cases e), fun k hk => absurd hk (Nat.not_lt_zero _), fun j k _ hk => absurd hk (Nat.not_lt_zero _)⟩
theorem OwnL.below (h : OwnL w B T A n c ls F) (hb : Below w.heap.size w w') : OwnL w' B T A n c ls F := by
  obtain ⟨vs, h1, h2⟩ := h.row
  refine ⟨h.len, ⟨vs, h1.kept (grownOf hb none) ?_, h2⟩, fun k hk => (h.parts k hk).below hb, h.top, h.low, h.apart⟩
  cases A with
  | none => exact .inl rfl
  | some a => exact .inr (fun e => by cases e)
theorem OwnL.mono (h : OwnL w B T A n c ls F) (hB : B' ≤ B) (hT : T ≤ T') : OwnL w B' T' A n c ls F := by
  obtain ⟨vs, h1, h2⟩ := h.row
  exact ⟨h.len, ⟨vs, h1.mono hB, h2⟩, fun k hk => (h.parts k hk).mono hB, fun a e => Nat.lt_of_lt_of_le (h.top a e) hT, fun k hk a e => Nat.lt_of_lt_of_le (h.low k hk a e) hT, h.apart⟩
theorem OwnL.span {S U : Nat} (h : OwnL w B T A n c ls F) (hs : Span S U w w') (hU : U ≤ B) : OwnL w' B T A n c ls F := by
  obtain ⟨vs, h1, h2⟩ := h.row
  refine ⟨h.len, ⟨vs, ?_, h2⟩, fun k hk => (h.parts k hk).span hs hU, h.top, h.low, h.apart⟩
  rcases h1 with ⟨h1, h3⟩
  refine ⟨h1, ?_⟩
  rcases h3 with h3 | ⟨g, cap, cur, e, hb, hg, h5, h6, h7, h8⟩
  · exact .inl h3
  · refine .inr ⟨g, cap, cur, e, hb, ?_, h5, h6, h7, h8⟩
    rw [hs.block g (by have := (Array.getElem?_eq_some_iff.1 hg).1; exact this) (.inr (by omega))]
    exact hg
theorem OwnL.has (h : OwnL w B T A n c ls F) : HasL w A n ls := by
  refine ⟨h.len, fun hn => ?_⟩
  obtain ⟨vs, h1, h2⟩ := h.row
  obtain ⟨g, cap, hv, _, hlt⟩ := h1.form hn
  have hA : A = some ⟨g, 0, none⟩ := by injection hv
  subst hA
  refine ⟨_, rfl, hlt, fun k hk => ?_⟩
  have hp := h.parts k hk
  have key : ∀ i, i < 7 → ∀ v, (lnCells (lnAt ls k) (F k).1 (F k).2.1 (F k).2.2)[i]? = some v → w.cell? ⟨g, k * 7 + i, none⟩ = some v := fun i hi v hv => by
    rw [h1.cellAt (k * 7 + i) (by omega), h2 k hk i hi, hv]
  refine ⟨_, _, _, ?_, hp.has, hp.capLe, hp.nilOk⟩
  rw [addNone']
  exact ⟨key 0 (by omega) _ rfl, key 1 (by omega) _ rfl, key 2 (by omega) _ rfl, key 3 (by omega) _ rfl, key 4 (by omega) _ rfl, key 5 (by omega) _ rfl, key 6 (by omega) _ rfl⟩
end

end Go.Proofs.YtcbofogmfelpkaaDoor
