/- A circuit in memory: one that reads as given, one whose lists lie in rows of their own; and what the exact laws' helpers do with circuits: copy, size, comparison, marks. For lists of at most 1048576 elements. -/
import Derived.Test.YtaohgbkhmgfnhaaCir2
import Derived.Test.YtaohgbkhmgfnhaaGen1
import Derived.Lib.SmallJoins
namespace Go.Proofs.Ytaohgbkhmgfnhaa
open Go.RowKit
set_option maxRecDepth 100000

/-- A circuit: its inputs of both parties, its gates, its outs. -/
structure Ci where
  in0 : Int
  in1 : Int
  gs : List Ga
  os : List Int

def cv (x y : Int) (G : Option Addr) (n c : Nat) (O : Option Addr) (m d : Nat) : Value := .agg #[.int .i64 x, .int .i64 y, .slice G n c, .slice O m d]

/-- The value v reads as the circuit C. -/
def HasC (w : World) (v : Value) (C : Ci) : Prop :=
  ∃ G n c O m d, v = .agg #[.int .i64 C.in0, .int .i64 C.in1, .slice G n c, .slice O m d] ∧ HasG w G n C.gs ∧ Has w O m C.os ∧ n ≤ c ∧ m ≤ d ∧ NilOk G n c ∧ NilOk O m d
/-- The same, and its lists lie in rows of the call's own, from block B on. -/
def OwnC (w : World) (B : Nat) (v : Value) (C : Ci) : Prop :=
  ∃ G n c O m d, v = .agg #[.int .i64 C.in0, .int .i64 C.in1, .slice G n c, .slice O m d] ∧ OwnG w B G n c C.gs ∧ Own w B O m d C.os

section
variable {w w' : World} {v : Value} {C : Ci} {B B' S T n c m d : Nat} {A O : Option Addr} {gs : List Ga} {zs : List Int}
theorem OwnG.capLe (h : OwnG w B A n c gs) : n ≤ c := by
  rcases h.2.2 with ⟨hv, h0⟩ | ⟨g, cap, cur, hv, _, _, hnc, _⟩
  · omega
  · injection hv with _ _ hc
    omega
theorem OwnG.nilOk (h : OwnG w B A n c gs) : NilOk A n c := by
  intro e
  subst e
  rcases h.2.2 with ⟨hv, h0⟩ | ⟨g, cap, cur, hv, _⟩
  · injection hv with _ _ hc
    exact ⟨h0, hc⟩
  · injection hv with ha
    cases ha
theorem HasC.below (h : HasC w v C) (hb : Below w.heap.size w w') : HasC w' v C := by
  obtain ⟨G, n, c, O, m, d, e, h1, h2, h3⟩ := h
  exact ⟨G, n, c, O, m, d, e, h1.below hb, h2.below hb, h3⟩
theorem OwnC.below (h : OwnC w B v C) (hb : Below w.heap.size w w') : OwnC w' B v C := by
  obtain ⟨G, n, c, O, m, d, e, h1, h2⟩ := h
  exact ⟨G, n, c, O, m, d, e, h1.below hb, h2.below hb⟩
theorem OwnC.mono (h : OwnC w B v C) (hB : B' ≤ B) : OwnC w B' v C := by
  obtain ⟨G, n, c, O, m, d, e, h1, h2⟩ := h
  exact ⟨G, n, c, O, m, d, e, h1.mono hB, h2.mono hB⟩
theorem OwnC.has (h : OwnC w B v C) : HasC w v C := by
  obtain ⟨G, n, c, O, m, d, e, h1, h2⟩ := h
  exact ⟨G, n, c, O, m, d, e, h1.has, h2.has, h1.capLe, h2.capLe, h1.nilOk, own_nilOk h2⟩
theorem OwnG.span (h : OwnG w B A n c gs) (hs : Span S T w w') (hT : T ≤ B) : OwnG w' B A n c gs := by
  refine ⟨h.1, ?_⟩
  rcases h.2 with ⟨h1, h2⟩
  refine ⟨h1, ?_⟩
  rcases h2 with h2 | ⟨g, cap, cur, e, hb, hg, h5, h6, h7, h8⟩
  · exact .inl h2
  · refine .inr ⟨g, cap, cur, e, hb, ?_, h5, h6, h7, h8⟩
    rw [hs.block g (by have := (Array.getElem?_eq_some_iff.1 hg).1; exact this) (.inr (by omega))]
    exact hg
theorem OwnC.span (h : OwnC w B v C) (hs : Span S T w w') (hT : T ≤ B) : OwnC w' B v C := by
  obtain ⟨G, n, c, O, m, d, e, h1, h2⟩ := h
  exact ⟨G, n, c, O, m, d, e, h1.span hs hT, h2.span hs hT⟩
/-- A row of gates and a row of integers never share a block. -/
theorem ownApart (h1 : OwnG w B A n c gs) (h2 : Own w B' O m d zs) : ∀ a b : Addr, A = some a → O = some b → a.block ≠ b.block := by
  rintro a b rfl rfl e
  rcases h1.2.2 with ⟨hv, _⟩ | ⟨g, cap, cur, hv, _, hg, _⟩
  · cases hv
  · rcases h2.2.2 with ⟨hv2, _⟩ | ⟨g2, cap2, cur2, hv2, _, hg2, _⟩
    · cases hv2
    · injection hv with e1
      injection hv2 with e2
      injection e1 with e1
      injection e2 with e2
      rw [e1, e2] at e
      have e' : g = g2 := e
      subst e'
      rw [hg] at hg2
      injection hg2 with e3
      injection e3 with _ e4
      exact absurd e4 (by decide)
end

section
variable {w w' : World} {g S t i : Nat} {cs : Array Value} {v : Value}
/-- Block g holds the cells cs: a variable of the call's own. -/
def Blk (w : World) (g : Nat) (cs : Array Value) (t : TypeId) : Prop := w.heap[g]? = some (.cells cs t (0, 0))
theorem Blk.cell (h : Blk w g cs t) (hv : cs[i]? = some v) : w.cell? ⟨g, i, none⟩ = some v := by rw [← hv]; unfold Blk at h; simp [World.cell?, h]
theorem Blk.free (h : Blk w g cs t) (i : Nat) : w.frozen? ⟨g, i, none⟩ = false := by unfold Blk at h; simp [World.frozen?, h]
theorem Blk.lt (h : Blk w g cs t) : g < w.heap.size := (Array.getElem?_eq_some_iff.1 h).1
theorem Blk.below (h : Blk w g cs t) (hb : Below S w w') (hg : g < S) : Blk w' g cs t := (hb.block g hg).trans h
theorem Blk.below' (h : Blk w g cs t) (hb : Below w.heap.size w w') : Blk w' g cs t := h.below hb h.lt
theorem Blk.grown {row : Option Nat} (h : Blk w g cs t) (hb : w.grownBy w' row) (hne : some g ≠ row) : Blk w' g cs t := (hb.block g h.lt hne).trans h
theorem Blk.alloc (h : Blk w g cs t) (o : Obj) : Blk (w.alloc o) g cs t := h.below' (belowNew w o)
theorem Blk.new (w : World) (cs : Array Value) (t : TypeId) : Blk (w.alloc (.cells cs t)) w.heap.size cs t := by show (w.heap.push _)[w.heap.size]? = _; simp
theorem Blk.newAt {k : Nat} (w : World) (cs : Array Value) (t : TypeId) (hk : k = w.heap.size) : Blk (w.alloc (.cells cs t)) k cs t := by subst hk; exact Blk.new w cs t
theorem Blk.set (h : Blk w g cs t) (i : Nat) (v : Value) : Blk (w.setCell ⟨g, i, none⟩ v) g (cs.setIfInBounds i v) t := by
  exact Go.Joins.block_setCell h v
theorem Blk.other {b : Nat} (h : Blk w g cs t) (hne : b ≠ g) (i : Nat) (v : Value) : Blk (w.setCell ⟨b, i, none⟩ v) g cs t :=
  (Below.heap_setCell w ⟨b, i, none⟩ v g (fun e => hne e.symm)).trans h
end

set_option maxHeartbeats 400000 in
theorem szIntS_any (A : Option Addr) (n c : Nat) (x : Int) (w : World) (hx0 : 0 ≤ x) (hx : x ≤ 1048576) (hn : (n : Int) ≤ 9223372036854775807) :
    Calls Try.prog 40 #[.slice A n c, .int .i64 x] w fun e w' => e = .returned (.int .i64 (if x - n < 0 then -1 else x - n)) ∧ w = w' := by
  have hw : IntKind.i64.wrap (x - (n : Int)) = x - n := wrapIn (by omega) (by omega)
  by_cases h : x - n < 0
  · rw [if_pos h]
    go_enter Try.func40, Try.ntmps40
    go_wp2
    go_ret
    exact ⟨rfl, rfl⟩
  · rw [if_neg h]
    go_enter Try.func40, Try.ntmps40
    go_wp2
    go_ret
    exact ⟨rfl, rfl⟩

/-- The size of a circuit that came in: what is left of x. -/
def leftOf (C : Ci) (x : Int) : Int := if x - C.gs.length < 0 then -1 else if x - C.gs.length - C.os.length < 0 then -1 else x - C.gs.length - C.os.length

set_option maxHeartbeats 1000000 in
theorem szCircuit_any (a b : Int) (G : Option Addr) (n c : Nat) (O : Option Addr) (m d : Nat) (C : Ci) (x : Int) (w : World) (hg : C.gs.length = n) (ho : C.os.length = m) (hx0 : 0 ≤ x) (hx : x ≤ 1048576) (hn : n ≤ maxLen) (hm : m ≤ maxLen) :
    Calls Try.prog 12 #[.agg #[.int .i64 a, .int .i64 b, .slice G n c, .slice O m d], .int .i64 x] w fun e w' => e = .returned (.int .i64 (leftOf C x)) ∧ Below w.heap.size w w' := by
  unfold maxLen at hn hm
  have B1 := belowNew w (.cells #[.int .i64 a, .int .i64 b, .slice G n c, .slice O m d] 25)
  have H1 := Lib.hid (fun w => szGateS_any G n c x w hx0 hx (by omega))
  by_cases h : x - n < 0
  · have e : leftOf C x = -1 := by rw [leftOf, hg, if_pos h]
    rw [e]
    go_enter Try.func12, Try.ntmps12
    go_wp2_with fail
    refine (H1.out _).mono ?_
    rintro e w1 ⟨rfl, rfl⟩
    rw [if_pos h]
    go_wp2_with fail
    go_ret
    exact ⟨rfl, B1⟩
  · have hh := Lib.hid h
    have H2 := Lib.hid (fun w => szIntS_any O m d (x - n) w (by omega) (by omega) (by omega))
    by_cases h2 : x - n - m < 0
    · have e : leftOf C x = -1 := by rw [leftOf, hg, ho, if_neg h, if_pos h2]
      rw [e]
      go_enter Try.func12, Try.ntmps12
      go_wp2_with fail
      refine (H1.out _).mono ?_
      rintro e w1 ⟨rfl, rfl⟩
      rw [if_neg (Int.not_lt.2 hh.out)]
      go_wp2_with fail
      refine (H2.out _).mono ?_
      rintro e w1 ⟨rfl, rfl⟩
      rw [if_pos h2]
      go_wp2_with fail
      go_ret
      exact ⟨rfl, B1⟩
    · have hh2 := Lib.hid h2
      have e : leftOf C x = x - n - m := by rw [leftOf, hg, ho, if_neg h, if_neg h2]
      rw [e]
      go_enter Try.func12, Try.ntmps12
      go_wp2_with fail
      refine (H1.out _).mono ?_
      rintro e w1 ⟨rfl, rfl⟩
      rw [if_neg (Int.not_lt.2 hh.out)]
      go_wp2_with fail
      refine (H2.out _).mono ?_
      rintro e w1 ⟨rfl, rfl⟩
      rw [if_neg (Int.not_lt.2 hh2.out)]
      go_wp2_with fail
      go_ret
      exact ⟨rfl, B1⟩

set_option maxHeartbeats 1000000 in
theorem toCircuit_any (v : Value) (C : Ci) (w : World) (h : HasC w v C) (hn : C.gs.length ≤ 1048576) (hm : C.os.length ≤ 1048576) :
    Calls Try.prog 14 #[v] w fun e w' => ∃ v', e = .returned v' ∧ OwnC w' w.heap.size v' C ∧ Below w.heap.size w w' := by
  obtain ⟨G, n, c, O, m, d, rfl, hG, hO, _, _, _, _⟩ := h
  have hgl := hG.1
  have hol := hO.1
  obtain ⟨x, y, gs, os⟩ := C
  show Calls Try.prog 14 #[.agg #[.int .i64 x, .int .i64 y, .slice G n c, .slice O m d]] w _
  simp only at hgl hol hn hm hG hO
  obtain ⟨W1, hW1⟩ : ∃ W, W = w.alloc (.cells #[.int .i64 x, .int .i64 y, .slice G n c, .slice O m d] 25) := ⟨_, rfl⟩
  obtain ⟨W2, hW2⟩ : ∃ W, W = W1.alloc (.cells #[.int .i64 0, .int .i64 0, .slice none 0 0, .slice none 0 0] 30) := ⟨_, rfl⟩
  obtain ⟨W3, hW3⟩ : ∃ W, W = W2.alloc (.cells #[.int .i64 x, .int .i64 y, .slice none 0 0, .slice none 0 0] 30) := ⟨_, rfl⟩
  have s1 : W1.heap.size = w.heap.size + 1 := by rw [hW1]; simp
  have s2 : W2.heap.size = w.heap.size + 1 + 1 := by rw [hW2]; simp [s1]
  have s3 : W3.heap.size = w.heap.size + 1 + 1 + 1 := by rw [hW3]; simp [s2]
  have p0 : Blk W3 w.heap.size #[.int .i64 x, .int .i64 y, .slice G n c, .slice O m d] 25 := by rw [hW3, hW2, hW1]; exact ((Blk.new _ _ _).alloc _).alloc _
  have p1 : Blk W3 (w.heap.size + 1) #[.int .i64 0, .int .i64 0, .slice none 0 0, .slice none 0 0] 30 := by rw [hW3, hW2]; exact (Blk.newAt _ _ _ s1.symm).alloc _
  have p2 : Blk W3 (w.heap.size + 1 + 1) #[.int .i64 x, .int .i64 y, .slice none 0 0, .slice none 0 0] 30 := by rw [hW3]; exact Blk.newAt _ _ _ s2.symm
  have B3 : Below w.heap.size w W3 := by rw [hW3, hW2, hW1]; exact (((Below.refl _ w).alloc (Nat.le_refl _) _).alloc (by simp) _).alloc (by simp; omega) _
  have HG := hG.below B3
  have HO := hO.below B3
  go_enter Try.func14, Try.ntmps14
  go_wp2_with fail
  rw [← hW1, ← hW2, ← hW3]
  clear hW1 hW2 hW3
  refine (toGateS_any G n c gs W3 HG (by omega)).mono ?_
  rintro e w1 ⟨A', rfl, oG, b1⟩
  have q0 := p0.below' b1
  have q1 := p1.below' b1
  have q2 := p2.below' b1
  have hO1 := HO.below b1
  have t1 := b1.size
  have B4 := B3.trans (b1.mono B3.size)
  have c22 := q2.cell (i := 2) rfl
  have f22 := q2.free 2
  have c03 := q0.cell (i := 3) rfl
  clear p0 p1 p2 HG HO B3 b1
  go_wp2_with fail
  obtain ⟨W5, hW5⟩ : ∃ W, W = w1.setCell ⟨w.heap.size + 1 + 1, 2, none⟩ (.slice A' n n) := ⟨_, rfl⟩
  rw [← hW5]
  have r0 : Blk W5 w.heap.size #[.int .i64 x, .int .i64 y, .slice G n c, .slice O m d] 25 := by rw [hW5]; exact q0.other (by omega) _ _
  have r1 : Blk W5 (w.heap.size + 1) #[.int .i64 0, .int .i64 0, .slice none 0 0, .slice none 0 0] 30 := by rw [hW5]; exact q1.other (by omega) _ _
  have r2 : Blk W5 (w.heap.size + 1 + 1) #[.int .i64 x, .int .i64 y, .slice A' n n, .slice none 0 0] 30 := by rw [hW5]; exact q2.set 2 _
  have g5 : w1.grownBy W5 (some (w.heap.size + 1 + 1)) := by rw [hW5]; exact grown_setCell (World.grownBy.refl _ _) _ _
  have B5 : Below w.heap.size w W5 := by rw [hW5]; exact B4.setCell (by show w.heap.size ≤ w.heap.size + 1 + 1; omega) _
  have oG5 := oG.kept g5 (fun ad e => by have := (oG.born ad e).1; simp; omega)
  have hO5 : Has W5 O m os := hO.below B5
  have t5 := g5.size
  clear hW5 q0 q1 q2 c22 f22 c03 B4 oG hO1 g5
  refine (toIntS_any O m d os W5 hO5 (by omega)).mono ?_
  rintro e w2 ⟨A'', rfl, oO, b2⟩
  have u0 := r0.below' b2
  have u1 := r1.below' b2
  have u2 := r2.below' b2
  have oG6 := oG5.below b2
  have B6 := B5.trans (b2.mono B5.size)
  have t2 := b2.size
  have c20 := u2.cell (i := 0) rfl
  have c21 := u2.cell (i := 1) rfl
  have c22 := u2.cell (i := 2) rfl
  have c23 := u2.cell (i := 3) rfl
  have f23 := u2.free 3
  have c10 := u1.cell (i := 0) rfl
  have c11 := u1.cell (i := 1) rfl
  have c12 := u1.cell (i := 2) rfl
  have c13 := u1.cell (i := 3) rfl
  have f10 := u1.free 0
  have f11 := u1.free 1
  have f12 := u1.free 2
  have f13 := u1.free 3
  have HK := Lib.hid (And.intro u1 (And.intro B6 (And.intro oG6 oO)))
  clear r0 r1 r2 u0 u2 oG5 hO5 B5 b2 u1 B6 oG6 oO
  go_wp2_with fail
  obtain ⟨u1, B6, oG6, oO⟩ := HK.out
  obtain ⟨W7, hW7⟩ : ∃ W, W = w2.setCell ⟨w.heap.size + 1 + 1, 3, none⟩ (.slice A'' m m) := ⟨_, rfl⟩
  rw [← hW7]
  have g7 : w2.grownBy W7 (some (w.heap.size + 1 + 1)) := by rw [hW7]; exact grown_setCell (World.grownBy.refl _ _) _ _
  have v1 : Blk W7 (w.heap.size + 1) #[.int .i64 0, .int .i64 0, .slice none 0 0, .slice none 0 0] 30 := by rw [hW7]; exact u1.other (by omega) _ _
  have B7 : Below w.heap.size w W7 := by rw [hW7]; exact B6.setCell (by show w.heap.size ≤ w.heap.size + 1 + 1; omega) _
  have oG7 := oG6.kept g7 (fun ad e => by have := (oG6.born ad e).1; simp; omega)
  have oO7 := oO.kept g7 (fun ad e => by have := (oO.born ad e).1; simp; omega)
  have t7 := g7.size
  clear hW7 g7 u1 B6 oG6 oO
  obtain ⟨W8, hW8⟩ : ∃ W, W = (((W7.setCell ⟨w.heap.size + 1, 0, none⟩ (.int .i64 x)).setCell ⟨w.heap.size + 1, 1, none⟩ (.int .i64 y)).setCell ⟨w.heap.size + 1, 2, none⟩ (.slice A' n n)).setCell ⟨w.heap.size + 1, 3, none⟩ (.slice A'' m m) := ⟨_, rfl⟩
  rw [← hW8]
  have g8 : W7.grownBy W8 (some (w.heap.size + 1)) := by rw [hW8]; exact grown_setCell (grown_setCell (grown_setCell (grown_setCell (World.grownBy.refl _ _) _ _) _ _) _ _) _ _
  have v8 : Blk W8 (w.heap.size + 1) #[.int .i64 x, .int .i64 y, .slice A' n n, .slice A'' m m] 30 := by rw [hW8]; exact (((v1.set 0 _).set 1 _).set 2 _).set 3 _
  have B8 : Below w.heap.size w W8 := B7.grown g8 (by omega) (fun k hk => by simp at hk; omega)
  have oG8 := oG7.kept g8 (fun ad e => by have := (oG7.born ad e).1; simp; omega)
  have oO8 := oO7.kept g8 (fun ad e => by have := (oO7.born ad e).1; simp; omega)
  have e0 := v8.cell (i := 0) rfl
  have e1 := v8.cell (i := 1) rfl
  have e2 := v8.cell (i := 2) rfl
  have e3 := v8.cell (i := 3) rfl
  refine bodyPost_ret (v := .agg #[.int .i64 x, .int .i64 y, .slice A' n n, .slice A'' m m]) (by simp [results, Try.results14, go_sem, e0, e1, e2, e3]) rfl ⟨_, rfl, ⟨A', n, n, A'', m, m, rfl, oG8.mono (by omega), oO8.mono (by omega)⟩, B8⟩

end Go.Proofs.Ytaohgbkhmgfnhaa
