/- What the model's draw of equations yields: lists of lists of integers and a list; and nothing that was in memory turns. For every list of bytes. -/
import Derived.Test.YtkmnhdnifpglnaaCur5
import Derived.Deep.AppendLies
namespace Go.Proofs.Ytkmnhdnifpglnaa
open Go.RowKit

/-- An outer row v of n slices; each is a row of the call's own, in a block that is not v's. -/
def MatG (w : World) (S : Nat) (v : Value) (n : Nat) (M : Nat → List Int) : Prop :=
  ∃ vs : List Value, w.ownsRow S 32 1 v n vs ∧ ∀ k, k < n → ∃ R m c, vs[k]? = some (.slice R m c) ∧ Own w S R m c (M k) ∧ m ≤ 100 ∧ ∀ ad : Addr, R = some ad → v.ownBlock ≠ some ad.block

section
variable {w w' : World} {S n g k : Nat} {v : Value} {M : Nat → List Int}
theorem MatG.grown (h : MatG w S v n M) (hg : w.grownBy w' (some g)) (hS : g < S) : MatG w' S v n M := by
  obtain ⟨vs, ho, hr⟩ := h
  refine ⟨vs, ownStays ho hg hS, fun k hk => ?_⟩
  obtain ⟨R, m, c, h1, h2, h3⟩ := hr k hk
  exact ⟨R, m, c, h1, ⟨h2.1, ownStays h2.2 hg hS⟩, h3⟩
theorem MatG.toM (h : MatG w S (.slice (some ⟨g, 0, none⟩) n k) n M) : HasM w (some ⟨g, 0, none⟩) n M := fun hn => by
  obtain ⟨vs, ho, hr⟩ := h
  refine ⟨_, rfl, (ho.lt g rfl).2, fun j hj => ?_⟩
  obtain ⟨R, m, c, h1, h2, h3, _⟩ := hr j hj
  refine ⟨R, m, c, ?_, h2.has, by omega, h2.capLe, own_nilOk h2⟩
  rw [addNone, ho.cellAt j (by omega)]
  exact h1
theorem MatG.nilM (h : MatG w S (.slice none 0 0) n M) : n = 0 := by
  obtain ⟨vs, ho, hr⟩ := h
  rcases ho.2 with ⟨_, h0⟩ | ⟨g, cap, cur, hv, _⟩
  · exact h0
  · cases hv
theorem MatG.set {cap m c : Nat} {R : Option Addr} {L : List Int} (h : MatG w S (.slice (some ⟨g, 0, none⟩) n cap) n M) (hk : k < n) (hL : Own w S R m c L) (hm : m ≤ 100) (hR : ∀ ad : Addr, R = some ad → ad.block ≠ g) :
    MatG (w.setCell ⟨g, k, none⟩ (.slice R m c)) S (.slice (some ⟨g, 0, none⟩) n cap) n (fun i => if i = k then L else M i) := by
  obtain ⟨vs, ho, hr⟩ := h
  have hl : vs.length = n := by simpa using ho.1
  have hst := ho.stored k (.slice R m c)
  have keep : ∀ {R' : Option Addr} {m' c' : Nat} {L' : List Int}, Own w S R' m' c' L' → (∀ ad : Addr, R' = some ad → ad.block ≠ g) → Own (w.setCell ⟨g, k, none⟩ (.slice R m c)) S R' m' c' L' := fun h1 h2 => h1.kept hst.2 (fun ad e he => h2 ad e (by simpa using he))
  refine ⟨_, hst.1, fun j hj => ?_⟩
  by_cases e : j = k
  · subst e
    refine ⟨R, m, c, by rw [List.getElem?_set_self (by omega)], ?_, hm, fun ad e he => hR ad e (by simpa [Value.ownBlock] using he.symm)⟩
    show Own _ S R m c (if j = j then L else M j)
    rw [if_pos rfl]
    exact keep hL hR
  · obtain ⟨R', m', c', h1, h2, h3, h4⟩ := hr j hj
    refine ⟨R', m', c', by rw [List.getElem?_set_ne (by omega)]; exact h1, ?_, h3, h4⟩
    show Own _ S R' m' c' (if j = k then L else M j)
    rw [if_neg e]
    exact keep h2 (fun ad e he => h4 ad e (by simp [Value.ownBlock, he]))
theorem MatG.elem {cap : Nat} (h : MatG w S (.slice (some ⟨g, 0, none⟩) n cap) n M) (hk : k < n) : ∃ R m c, w.cell? ⟨g, k, none⟩ = some (.slice R m c) ∧ Own w S R m c (M k) ∧ m ≤ 100 := by
  obtain ⟨vs, ho, hr⟩ := h
  obtain ⟨R, m, c, h1, h2, h3, _⟩ := hr k hk
  exact ⟨R, m, c, by rw [ho.cellAt k (by omega)]; exact h1, h2, h3⟩
theorem MatG.free {cap : Nat} (h : MatG w S (.slice (some ⟨g, 0, none⟩) n cap) n M) (k : Nat) : w.frozen? ⟨g, k, none⟩ = false := by
  obtain ⟨vs, ho, _⟩ := h
  exact ho.frozenAt k
theorem MatG.olt {cap : Nat} (h : MatG w S (.slice (some ⟨g, 0, none⟩) n cap) n M) : S ≤ g ∧ g < w.heap.size := by
  obtain ⟨vs, ho, _⟩ := h
  exact ho.lt g rfl
theorem MatG.below (h : MatG w S v n M) (hb : Below w.heap.size w w') : MatG w' S v n M := by
  obtain ⟨vs, ho, hr⟩ := h
  refine ⟨vs, ho.kept (grownOf hb none) (by by_cases e : v.ownBlock = none; exact .inl e; exact .inr e), fun k hk => ?_⟩
  obtain ⟨R, m, c, h1, h2, h3⟩ := hr k hk
  exact ⟨R, m, c, h1, h2.below hb, h3⟩
/-- A row more. -/
theorem MatG.push {w2 : World} {wr : World} {vs : List Value} {R : Option Addr} {m c g' cap : Nat} {L : List Int} (ho : wr.ownsRow S 32 1 v n vs) (hr : ∀ k, k < n → ∃ R m c, vs[k]? = some (.slice R m c) ∧ Own w S R m c (M k) ∧ m ≤ 100 ∧ ∀ ad : Addr, R = some ad → v.ownBlock ≠ some ad.block)
    (hx : Own w wr.heap.size R m c L) (hm : m ≤ 100) (hS : S ≤ wr.heap.size) (ho2 : w2.ownsRow S 32 1 (.slice (some ⟨g', 0, none⟩) (n + 1) cap) (n + 1) (vs ++ [.slice R m c])) (hgr : w.grownBy w2 v.ownBlock) (hg : v.ownBlock = some g' ∨ g' = w.heap.size) :
    MatG w2 S (.slice (some ⟨g', 0, none⟩) (n + 1) cap) (n + 1) (fun i => if i = n then L else M i) := by
  have hl : vs.length = n := by simpa using ho.1
  have hvx : ∀ ad : Addr, R = some ad → v.ownBlock ≠ some ad.block := fun ad e he => by
    have h1 := (hx.born ad e).1
    have h2 := (ho.lt ad.block he).2
    omega
  refine ⟨_, ho2, fun k hk => ?_⟩
  by_cases e : k = n
  · subst e
    refine ⟨R, m, c, by rw [List.getElem?_append_right (by omega), hl, Nat.sub_self]; rfl, ?_, hm, fun ad e he => ?_⟩
    · show Own _ S R m c (if k = k then L else M k)
      rw [if_pos rfl]
      exact (hx.mono hS).kept hgr (fun ad e he => hvx ad e he.symm)
    · have he' : g' = ad.block := by simpa [Value.ownBlock] using he
      rcases hg with hg | hg
      · exact hvx ad e (by rw [hg, he'])
      · have := (hx.born ad e).2; omega
  · obtain ⟨R', m', c', h1, h2, h3, h4⟩ := hr k (by omega)
    refine ⟨R', m', c', by rw [List.getElem?_append_left (by omega)]; exact h1, ?_, h3, fun ad e he => ?_⟩
    · show Own _ S R' m' c' (if k = n then L else M k)
      rw [if_neg e]
      exact h2.kept hgr (fun ad e he => h4 ad e he.symm)
    · have he' : g' = ad.block := by simpa [Value.ownBlock] using he
      rcases hg with hg | hg
      · exact h4 ad e (by rw [hg, he'])
      · have := (h2.born ad e).2; omega
theorem MatG.nil_ (w : World) (S : Nat) : MatG w S (.slice none 0 0) 0 (fun _ => []) := ⟨[], World.ownsRow_nil _ _ _ _, fun k hk => by omega⟩
end

set_option maxHeartbeats 1000000 in
theorem l1Own_opt (R : Option Addr) (n c : Nat) (zs : List Int) (w : World) (h : Has w R n zs) (hnil : NilOk R n c) (hn : n ≤ 16777216) :
    Calls Try.prog 59 #[.slice R n c] w fun e w' => ∃ R' c', e = .returned (.slice R' n c') ∧ Own w' w.heap.size R' n c' zs ∧ Below w.heap.size w w' := by
  have hB1 := belowNew w (.cells #[] 3)
  have own0 : (w.alloc (.cells #[] 3)).ownsRow w.heap.size 3 1 (.slice (some ⟨w.heap.size, 0, none⟩) 0 0) 0 (vals []) := World.ownsRow_lit w #[] 0 (Nat.le_refl _) (Nat.zero_le _) rfl
  have hT := h.below hB1
  go_enter Try.func59, Try.ntmps59
  go_wp2_with (at_builtin; refine appendMany _ rfl (.tmp 3) (.tmp 4) rfl w.heap.size _ R 0 n c [] zs rfl own0 rfl hnil hT (by omega) (by omega) hB1.size ?_; intro v1 w1 own1 b1; rw [Nat.zero_add, List.nil_append] at own1)
  go_ret
  obtain ⟨R', c', rfl, ho⟩ := ownOf own1
  exact ⟨R', c', rfl, ho, hB1.trans b1⟩

/-- Drawn equations. -/
def DrawPML (w w' : World) (e : Ending) : Prop := ∃ (p : Int) (A : Option Addr) (n c : Nat) (R : Option Addr) (k c' : Nat), e = .returned (.tuple #[.int .i64 p, .slice A n c, .slice R k c']) ∧ I64 p ∧ n ≤ 100 ∧ k ≤ 100 ∧ Below w.heap.size w w' ∧ (∃ M, HasM w' A n M) ∧ ∃ ys, Has w' R k ys

set_option maxRecDepth 100000 in
set_option maxHeartbeats 1000000 in
theorem DrawSolveLinear_any (A : Option Addr) (n c : Nat) (bs : List Int) (w : World) (h : HasB w A n bs) : Calls Try.prog 31 #[.slice A n c] w fun e w' => DrawPML w w' e := by
  have hc := curNew c h
  go_enter Try.func31, Try.ntmps31
  go_wp2_with fail
  refine (anyPrime_any A w.heap.size n c 0 bs _ hc (by omega)).mono ?_
  rintro e w1 ⟨p, rfl, p0, p1, hc1, hg1⟩
  go_wp2_with fail
  refine (pick_any A w.heap.size n c (0 + 4) bs 4 w1 hc1 (by omega) (by omega) (by omega)).mono ?_
  rintro e w2 ⟨y, rfl, y0, y1, hc2, hg2⟩
  have hy4 : y ≤ 4 := by omega
  clear y1
  go_wp2_with fail
  refine (one_any A w.heap.size n c (0 + 4 + 2) bs 20 w2 hc2 (by omega) (by omega) (by omega)).mono ?_
  rintro e w3 ⟨b, rfl, hc3, hg3⟩
  have hgg := (hg1.trans hg2).trans hg3
  clear hg1 hg2 hg3 hc1 hc2 hc
  cases b with
  | false =>
    have hs0 := hgg.size
    simp only [World.size_alloc] at hs0
    obtain ⟨j0', hj', hy0, hy1, hy2⟩ := info_parts infoRow
    obtain ⟨S, hS⟩ : ∃ S, w3.heap.size = S := ⟨_, rfl⟩
    have hSw : w.heap.size < S := by omega
    have hSL : S ≤ w3.heap.size := by omega
    go_wp2
    go_loopw [8, 9] (fun v i wr => ∃ (j : Nat) (M : Nat → List Int), j ≤ 7 ∧ (j : Int) ≤ (1 + y) ∧ i = .int .i64 j ∧ MatG wr S v j M ∧ ((j = 0 ∧ v = .slice none 0 0) ∨ (∃ g cap, v = .slice (some ⟨g, 0, none⟩) j cap)) ∧ Cur wr w.heap.size A n c bs (0 + 4 + 2 + 2 + 400 * j) ∧ (w.alloc (.cells #[.slice A n c, .int .i64 0, .int .u64 0] 55)).grownBy wr (some w.heap.size) ∧ S ≤ wr.heap.size) (fun _ i _ => 8 - (intOf i).toNat)
    case atStart => exact ⟨0, fun _ => [], by omega, by omega, rfl, MatG.nil_ _ _, .inl ⟨rfl, rfl⟩, hc3, hgg, hSL⟩
    clear hc3 hgg
    case round =>
      obtain ⟨j, M, hj, hjm, rfl, hmat, hshape, hcur, hgr, hSr⟩ := hrel
      by_cases hlt : (j : Int) < (1 + y)
      · clear hshape
        go_wp2_with fail
        refine (elements_any A w.heap.size n c (0 + 4 + 2 + 2 + 400 * j) bs p (1 + y) wr hcur (by omega) p0 p1 (by omega) (by omega)).mono ?_
        rintro e w5 ⟨R, q, cR, rfl, hq, hc5, hg5, zs, ho5⟩
        obtain ⟨vs, hor, hrr⟩ := hmat
        have ho5r := ownStays hor hg5 hSw
        have hrows : ∀ k, k < j → ∃ R m c, vs[k]? = some (.slice R m c) ∧ Own (w5.alloc (.cells #[.slice R q cR] 32)) S R m c (M k) ∧ m ≤ 100 ∧ ∀ ad : Addr, R = some ad → u8.ownBlock ≠ some ad.block := fun k hk => by
          obtain ⟨R', m', c', h1, h2, h3, h4⟩ := hrr k hk
          exact ⟨R', m', c', h1, (show Own w5 S R' m' c' (M k) from ⟨h2.1, ownStays h2.2 hg5 hSw⟩).below (belowNew _ _), h3, h4⟩
        have hrow' : ∀ k, k < j → ∃ R2 m c, vs[k]? = some (.slice R2 m c) ∧ Own (w5.alloc (.cells #[.slice R q cR] 32)) S R2 m c (M k) ∧ m ≤ 100 ∧ ∀ ad : Addr, R2 = some ad → u8.ownBlock ≠ some ad.block := fun k hk => by
          obtain ⟨R', m', c', h1, h2, h3, h4⟩ := hrr k hk
          exact ⟨R', m', c', h1, (show Own w5 S R' m' c' (M k) from ⟨h2.1, ownStays h2.2 hg5 hSw⟩).below (belowNew _ _), h3, h4⟩
        have hs5 := hg5.size
        have HR := Lib.hid hrow'
        clear hrows hrow' hrr
        go_wp2_with (at_builtin; refine wpList_append_lies _ rfl (.tmp 28) (.tmp 33) _ rfl S 32 j0' (.slice none 0 0) 1 24 Try.underlying42 hj' hy0 hy1 hy2 rfl (by decide) u8 j vs rfl (ho5r.alloc _) ⟨w5.heap.size, 0, none⟩ 1 1 [.slice R q cR] rfl (by simp) (cell_one_new _ _ _) (by simp [Value.oneCell']) (by omega) (by simp only [maxLen]; omega) (by omega) (by simp; omega) _ rfl ?_; intro g9 cap9 w6 hrow9 hgr9 hg9 _)
        have hxo := ho5.below (belowNew w5 (.cells #[.slice R q cR] 32))
        have hnew := MatG.push hor HR.out hxo hq hSr hrow9 hgr9 hg9
        have hb6 : Below S w5 w6 := ((Below.refl S w5).alloc (by omega) _).grown hgr9 (by simp; omega) (fun x hx => (hor.lt x hx).1)
        have hs6 := hb6.size
        go_roundw
        case rel => exact ⟨j + 1, _, by omega, by omega, by go_num, hnew, .inr ⟨g9, cap9, rfl⟩, (hc5.below hSw hb6).more (by omega), grownThen (hgr.trans hg5) (hb6.mono (by simp; omega)), by omega⟩
        case measure => simp [intOf]; omega
      · have hjeq : (j : Int) = (1 + y) := by omega
        rcases hshape with ⟨rfl, rfl⟩ | ⟨g, cap, rfl⟩
        · have hm1 : ¬ 1 < (1 + y) := by omega
          go_wp2_with fail
          refine (one_any A w.heap.size n c (0 + 4 + 2 + 2 + 400 * 0) bs 24 wr hcur (by omega) (by omega) (by omega)).mono ?_
          rintro e w8 ⟨b8, rfl, hc8, hg8⟩
          have hm8 := hmat.grown hg8 (by omega)
          cases b8 with
          | false =>
            go_wp2_with fail
            refine (elements_any A w.heap.size n c (0 + 4 + 2 + 2 + 400 * 0 + 2) bs p (1 + y) w8 hc8 (by omega) p0 p1 (by omega) (by omega)).mono ?_
            rintro e w9 ⟨R9, k9, c9, rfl, hk9, hc9, hg9, ys, hy9⟩
            have hm9 := hm8.grown hg9 (by omega)
            go_wp2_with fail
            go_ret3
            exact ⟨p, none, 0, 0, R9, k9, c9, rfl, i64Small (by omega) (by omega), by omega, hk9, belowCur ((hgr.trans hg8).trans hg9), ⟨fun _ => [], fun h0 => by omega⟩, ys, hy9.has⟩
          | true =>
            go_wp2_with fail
            refine (elements_any A w.heap.size n c (0 + 4 + 2 + 2 + 400 * 0 + 2) bs p ((1 + y) + 1) w8 hc8 (by omega) p0 p1 (by omega) (by omega)).mono ?_
            rintro e w9 ⟨R9, k9, c9, rfl, hk9, hc9, hg9, ys, hy9⟩
            have hm9 := hm8.grown hg9 (by omega)
            go_wp2_with fail
            go_ret3
            exact ⟨p, none, 0, 0, R9, k9, c9, rfl, i64Small (by omega) (by omega), by omega, hk9, belowCur ((hgr.trans hg8).trans hg9), ⟨fun _ => [], fun h0 => by omega⟩, ys, hy9.has⟩
        · by_cases hm1 : 1 < (1 + y)
          · go_wp2_with fail
            refine (one_any A w.heap.size n c (0 + 4 + 2 + 2 + 400 * j) bs 6 wr hcur (by omega) (by omega) (by omega)).mono ?_
            rintro e w5 ⟨b5, rfl, hc5, hg5⟩
            have hm5 := hmat.grown hg5 hSw
            have hgg5 := hgr.trans hg5
            cases b5 with
            | false =>
              go_wp2_with fail
              refine (one_any A w.heap.size n c (0 + 4 + 2 + 2 + 400 * j + 2) bs 24 w5 hc5 (by omega) (by omega) (by omega)).mono ?_
              rintro e w8 ⟨b8, rfl, hc8, hg8⟩
              have hm8 := hm5.grown hg8 (by omega)
              cases b8 with
              | false =>
                go_wp2_with fail
                refine (elements_any A w.heap.size n c (0 + 4 + 2 + 2 + 400 * j + 2 + 2) bs p (1 + y) w8 hc8 (by omega) p0 p1 (by omega) (by omega)).mono ?_
                rintro e w9 ⟨R9, k9, c9, rfl, hk9, hc9, hg9, ys, hy9⟩
                have hm9 := hm8.grown hg9 (by omega)
                go_wp2_with fail
                go_ret3
                exact ⟨p, some ⟨g, 0, none⟩, j, cap, R9, k9, c9, rfl, i64Small (by omega) (by omega), by omega, hk9, belowCur ((hgg5.trans hg8).trans hg9), ⟨_, hm9.toM⟩, ys, hy9.has⟩
              | true =>
                go_wp2_with fail
                refine (elements_any A w.heap.size n c (0 + 4 + 2 + 2 + 400 * j + 2 + 2) bs p ((1 + y) + 1) w8 hc8 (by omega) p0 p1 (by omega) (by omega)).mono ?_
                rintro e w9 ⟨R9, k9, c9, rfl, hk9, hc9, hg9, ys, hy9⟩
                have hm9 := hm8.grown hg9 (by omega)
                go_wp2_with fail
                go_ret3
                exact ⟨p, some ⟨g, 0, none⟩, j, cap, R9, k9, c9, rfl, i64Small (by omega) (by omega), by omega, hk9, belowCur ((hgg5.trans hg8).trans hg9), ⟨_, hm9.toM⟩, ys, hy9.has⟩
            | true =>
              obtain ⟨R1, q1, c1, hce1, ho1, hq1⟩ := hm5.elem (k := 1) (by omega)
              have hgl5 := hm5.olt
              have hs5 := hg5.size
              have jj : (1 : Int) < (j : Int) := by omega
              go_wp2_with fail
              refine (l1Own_opt R1 q1 c1 (M 1) w5 ho1.has (own_nilOk ho1) (by omega)).mono ?_
              rintro e w6 ⟨R6, c6, rfl, ho6, hb6⟩
              have hm6 := hm5.below hb6
              obtain ⟨R0, q0, c0, hce0, _, _⟩ := hm6.elem (k := 0) (by omega)
              have hf0 := hm6.free 0
              have hm7 := hm6.set (k := 0) (by omega) (ho6.mono (by omega)) hq1 (fun ad e => by have := (ho6.born ad e).1; omega)
              have hb7 : Below S w5 (w6.setCell ⟨g, 0, none⟩ (.slice R6 q1 c6)) := (hb6.mono (by omega)).setCell (by show S ≤ g; omega) _
              have hc7 := hc5.below hSw hb7
              have hgg7 := grownThen hgg5 (hb7.mono (by simp; omega))
              go_wp2_with fail
              refine (one_any A w.heap.size n c (0 + 4 + 2 + 2 + 400 * j + 2) bs 24 _ hc7 (by omega) (by omega) (by omega)).mono ?_
              rintro e w8 ⟨b8, rfl, hc8, hg8⟩
              have hm8 := hm7.grown hg8 (by omega)
              cases b8 with
              | false =>
                go_wp2_with fail
                refine (elements_any A w.heap.size n c (0 + 4 + 2 + 2 + 400 * j + 2 + 2) bs p (1 + y) w8 hc8 (by omega) p0 p1 (by omega) (by omega)).mono ?_
                rintro e w9 ⟨R9, k9, c9, rfl, hk9, hc9, hg9, ys, hy9⟩
                have hm9 := hm8.grown hg9 (by omega)
                go_wp2_with fail
                go_ret3
                exact ⟨p, some ⟨g, 0, none⟩, j, cap, R9, k9, c9, rfl, i64Small (by omega) (by omega), by omega, hk9, belowCur ((hgg7.trans hg8).trans hg9), ⟨_, hm9.toM⟩, ys, hy9.has⟩
              | true =>
                go_wp2_with fail
                refine (elements_any A w.heap.size n c (0 + 4 + 2 + 2 + 400 * j + 2 + 2) bs p ((1 + y) + 1) w8 hc8 (by omega) p0 p1 (by omega) (by omega)).mono ?_
                rintro e w9 ⟨R9, k9, c9, rfl, hk9, hc9, hg9, ys, hy9⟩
                have hm9 := hm8.grown hg9 (by omega)
                go_wp2_with fail
                go_ret3
                exact ⟨p, some ⟨g, 0, none⟩, j, cap, R9, k9, c9, rfl, i64Small (by omega) (by omega), by omega, hk9, belowCur ((hgg7.trans hg8).trans hg9), ⟨_, hm9.toM⟩, ys, hy9.has⟩
          · go_wp2_with fail
            refine (one_any A w.heap.size n c (0 + 4 + 2 + 2 + 400 * j) bs 24 wr hcur (by omega) (by omega) (by omega)).mono ?_
            rintro e w8 ⟨b8, rfl, hc8, hg8⟩
            have hm8 := hmat.grown hg8 (by omega)
            cases b8 with
            | false =>
              go_wp2_with fail
              refine (elements_any A w.heap.size n c (0 + 4 + 2 + 2 + 400 * j + 2) bs p (1 + y) w8 hc8 (by omega) p0 p1 (by omega) (by omega)).mono ?_
              rintro e w9 ⟨R9, k9, c9, rfl, hk9, hc9, hg9, ys, hy9⟩
              have hm9 := hm8.grown hg9 (by omega)
              go_wp2_with fail
              go_ret3
              exact ⟨p, some ⟨g, 0, none⟩, j, cap, R9, k9, c9, rfl, i64Small (by omega) (by omega), by omega, hk9, belowCur ((hgr.trans hg8).trans hg9), ⟨_, hm9.toM⟩, ys, hy9.has⟩
            | true =>
              go_wp2_with fail
              refine (elements_any A w.heap.size n c (0 + 4 + 2 + 2 + 400 * j + 2) bs p ((1 + y) + 1) w8 hc8 (by omega) p0 p1 (by omega) (by omega)).mono ?_
              rintro e w9 ⟨R9, k9, c9, rfl, hk9, hc9, hg9, ys, hy9⟩
              have hm9 := hm8.grown hg9 (by omega)
              go_wp2_with fail
              go_ret3
              exact ⟨p, some ⟨g, 0, none⟩, j, cap, R9, k9, c9, rfl, i64Small (by omega) (by omega), by omega, hk9, belowCur ((hgr.trans hg8).trans hg9), ⟨_, hm9.toM⟩, ys, hy9.has⟩
  | true =>
    go_wp2_with fail
    refine (amongNew A w.heap.size n c (0 + 4 + 2 + 2) bs _ [0, 6, 7] 3 w3 hc3 rfl rfl (by omega) (by omega) (by omega)).mono ?_
    rintro e w4 ⟨m, rfl, hm, hc4, hg4⟩
    have hmb : 0 ≤ m ∧ m ≤ 7 := by simp at hm; omega
    have hgg4 := hgg.trans hg4
    clear hm hgg hg4 hc3
    have hs0 := hgg4.size
    simp only [World.size_alloc] at hs0
    obtain ⟨j0', hj', hy0, hy1, hy2⟩ := info_parts infoRow
    obtain ⟨S, hS⟩ : ∃ S, w4.heap.size = S := ⟨_, rfl⟩
    have hSw : w.heap.size < S := by omega
    have hSL : S ≤ w4.heap.size := by omega
    go_wp2
    go_loopw [8, 9] (fun v i wr => ∃ (j : Nat) (M : Nat → List Int), j ≤ 7 ∧ (j : Int) ≤ m ∧ i = .int .i64 j ∧ MatG wr S v j M ∧ ((j = 0 ∧ v = .slice none 0 0) ∨ (∃ g cap, v = .slice (some ⟨g, 0, none⟩) j cap)) ∧ Cur wr w.heap.size A n c bs (0 + 4 + 2 + 2 + 2 + 400 * j) ∧ (w.alloc (.cells #[.slice A n c, .int .i64 0, .int .u64 0] 55)).grownBy wr (some w.heap.size) ∧ S ≤ wr.heap.size) (fun _ i _ => 8 - (intOf i).toNat)
    case atStart => exact ⟨0, fun _ => [], by omega, by omega, rfl, MatG.nil_ _ _, .inl ⟨rfl, rfl⟩, hc4, hgg4, hSL⟩
    clear hc4 hgg4
    case round =>
      obtain ⟨j, M, hj, hjm, rfl, hmat, hshape, hcur, hgr, hSr⟩ := hrel
      by_cases hlt : (j : Int) < m
      · clear hshape
        go_wp2_with fail
        refine (elements_any A w.heap.size n c (0 + 4 + 2 + 2 + 2 + 400 * j) bs p m wr hcur (by omega) p0 p1 (by omega) (by omega)).mono ?_
        rintro e w5 ⟨R, q, cR, rfl, hq, hc5, hg5, zs, ho5⟩
        obtain ⟨vs, hor, hrr⟩ := hmat
        have ho5r := ownStays hor hg5 hSw
        have hrows : ∀ k, k < j → ∃ R m c, vs[k]? = some (.slice R m c) ∧ Own (w5.alloc (.cells #[.slice R q cR] 32)) S R m c (M k) ∧ m ≤ 100 ∧ ∀ ad : Addr, R = some ad → u8.ownBlock ≠ some ad.block := fun k hk => by
          obtain ⟨R', m', c', h1, h2, h3, h4⟩ := hrr k hk
          exact ⟨R', m', c', h1, (show Own w5 S R' m' c' (M k) from ⟨h2.1, ownStays h2.2 hg5 hSw⟩).below (belowNew _ _), h3, h4⟩
        have hrow' : ∀ k, k < j → ∃ R2 m c, vs[k]? = some (.slice R2 m c) ∧ Own (w5.alloc (.cells #[.slice R q cR] 32)) S R2 m c (M k) ∧ m ≤ 100 ∧ ∀ ad : Addr, R2 = some ad → u8.ownBlock ≠ some ad.block := fun k hk => by
          obtain ⟨R', m', c', h1, h2, h3, h4⟩ := hrr k hk
          exact ⟨R', m', c', h1, (show Own w5 S R' m' c' (M k) from ⟨h2.1, ownStays h2.2 hg5 hSw⟩).below (belowNew _ _), h3, h4⟩
        have hs5 := hg5.size
        have HR := Lib.hid hrow'
        clear hrows hrow' hrr
        go_wp2_with (at_builtin; refine wpList_append_lies _ rfl (.tmp 28) (.tmp 33) _ rfl S 32 j0' (.slice none 0 0) 1 24 Try.underlying42 hj' hy0 hy1 hy2 rfl (by decide) u8 j vs rfl (ho5r.alloc _) ⟨w5.heap.size, 0, none⟩ 1 1 [.slice R q cR] rfl (by simp) (cell_one_new _ _ _) (by simp [Value.oneCell']) (by omega) (by simp only [maxLen]; omega) (by omega) (by simp; omega) _ rfl ?_; intro g9 cap9 w6 hrow9 hgr9 hg9 _)
        have hxo := ho5.below (belowNew w5 (.cells #[.slice R q cR] 32))
        have hnew := MatG.push hor HR.out hxo hq hSr hrow9 hgr9 hg9
        have hb6 : Below S w5 w6 := ((Below.refl S w5).alloc (by omega) _).grown hgr9 (by simp; omega) (fun x hx => (hor.lt x hx).1)
        have hs6 := hb6.size
        go_roundw
        case rel => exact ⟨j + 1, _, by omega, by omega, by go_num, hnew, .inr ⟨g9, cap9, rfl⟩, (hc5.below hSw hb6).more (by omega), grownThen (hgr.trans hg5) (hb6.mono (by simp; omega)), by omega⟩
        case measure => simp [intOf]; omega
      · have hjeq : (j : Int) = m := by omega
        rcases hshape with ⟨rfl, rfl⟩ | ⟨g, cap, rfl⟩
        · have hm1 : ¬ 1 < m := by omega
          go_wp2_with fail
          refine (one_any A w.heap.size n c (0 + 4 + 2 + 2 + 2 + 400 * 0) bs 24 wr hcur (by omega) (by omega) (by omega)).mono ?_
          rintro e w8 ⟨b8, rfl, hc8, hg8⟩
          have hm8 := hmat.grown hg8 (by omega)
          cases b8 with
          | false =>
            go_wp2_with fail
            refine (elements_any A w.heap.size n c (0 + 4 + 2 + 2 + 2 + 400 * 0 + 2) bs p m w8 hc8 (by omega) p0 p1 (by omega) (by omega)).mono ?_
            rintro e w9 ⟨R9, k9, c9, rfl, hk9, hc9, hg9, ys, hy9⟩
            have hm9 := hm8.grown hg9 (by omega)
            go_wp2_with fail
            go_ret3
            exact ⟨p, none, 0, 0, R9, k9, c9, rfl, i64Small (by omega) (by omega), by omega, hk9, belowCur ((hgr.trans hg8).trans hg9), ⟨fun _ => [], fun h0 => by omega⟩, ys, hy9.has⟩
          | true =>
            go_wp2_with fail
            refine (elements_any A w.heap.size n c (0 + 4 + 2 + 2 + 2 + 400 * 0 + 2) bs p (m + 1) w8 hc8 (by omega) p0 p1 (by omega) (by omega)).mono ?_
            rintro e w9 ⟨R9, k9, c9, rfl, hk9, hc9, hg9, ys, hy9⟩
            have hm9 := hm8.grown hg9 (by omega)
            go_wp2_with fail
            go_ret3
            exact ⟨p, none, 0, 0, R9, k9, c9, rfl, i64Small (by omega) (by omega), by omega, hk9, belowCur ((hgr.trans hg8).trans hg9), ⟨fun _ => [], fun h0 => by omega⟩, ys, hy9.has⟩
        · by_cases hm1 : 1 < m
          · go_wp2_with fail
            refine (one_any A w.heap.size n c (0 + 4 + 2 + 2 + 2 + 400 * j) bs 6 wr hcur (by omega) (by omega) (by omega)).mono ?_
            rintro e w5 ⟨b5, rfl, hc5, hg5⟩
            have hm5 := hmat.grown hg5 hSw
            have hgg5 := hgr.trans hg5
            cases b5 with
            | false =>
              go_wp2_with fail
              refine (one_any A w.heap.size n c (0 + 4 + 2 + 2 + 2 + 400 * j + 2) bs 24 w5 hc5 (by omega) (by omega) (by omega)).mono ?_
              rintro e w8 ⟨b8, rfl, hc8, hg8⟩
              have hm8 := hm5.grown hg8 (by omega)
              cases b8 with
              | false =>
                go_wp2_with fail
                refine (elements_any A w.heap.size n c (0 + 4 + 2 + 2 + 2 + 400 * j + 2 + 2) bs p m w8 hc8 (by omega) p0 p1 (by omega) (by omega)).mono ?_
                rintro e w9 ⟨R9, k9, c9, rfl, hk9, hc9, hg9, ys, hy9⟩
                have hm9 := hm8.grown hg9 (by omega)
                go_wp2_with fail
                go_ret3
                exact ⟨p, some ⟨g, 0, none⟩, j, cap, R9, k9, c9, rfl, i64Small (by omega) (by omega), by omega, hk9, belowCur ((hgg5.trans hg8).trans hg9), ⟨_, hm9.toM⟩, ys, hy9.has⟩
              | true =>
                go_wp2_with fail
                refine (elements_any A w.heap.size n c (0 + 4 + 2 + 2 + 2 + 400 * j + 2 + 2) bs p (m + 1) w8 hc8 (by omega) p0 p1 (by omega) (by omega)).mono ?_
                rintro e w9 ⟨R9, k9, c9, rfl, hk9, hc9, hg9, ys, hy9⟩
                have hm9 := hm8.grown hg9 (by omega)
                go_wp2_with fail
                go_ret3
                exact ⟨p, some ⟨g, 0, none⟩, j, cap, R9, k9, c9, rfl, i64Small (by omega) (by omega), by omega, hk9, belowCur ((hgg5.trans hg8).trans hg9), ⟨_, hm9.toM⟩, ys, hy9.has⟩
            | true =>
              obtain ⟨R1, q1, c1, hce1, ho1, hq1⟩ := hm5.elem (k := 1) (by omega)
              have hgl5 := hm5.olt
              have hs5 := hg5.size
              have jj : (1 : Int) < (j : Int) := by omega
              go_wp2_with fail
              refine (l1Own_opt R1 q1 c1 (M 1) w5 ho1.has (own_nilOk ho1) (by omega)).mono ?_
              rintro e w6 ⟨R6, c6, rfl, ho6, hb6⟩
              have hm6 := hm5.below hb6
              obtain ⟨R0, q0, c0, hce0, _, _⟩ := hm6.elem (k := 0) (by omega)
              have hf0 := hm6.free 0
              have hm7 := hm6.set (k := 0) (by omega) (ho6.mono (by omega)) hq1 (fun ad e => by have := (ho6.born ad e).1; omega)
              have hb7 : Below S w5 (w6.setCell ⟨g, 0, none⟩ (.slice R6 q1 c6)) := (hb6.mono (by omega)).setCell (by show S ≤ g; omega) _
              have hc7 := hc5.below hSw hb7
              have hgg7 := grownThen hgg5 (hb7.mono (by simp; omega))
              go_wp2_with fail
              refine (one_any A w.heap.size n c (0 + 4 + 2 + 2 + 2 + 400 * j + 2) bs 24 _ hc7 (by omega) (by omega) (by omega)).mono ?_
              rintro e w8 ⟨b8, rfl, hc8, hg8⟩
              have hm8 := hm7.grown hg8 (by omega)
              cases b8 with
              | false =>
                go_wp2_with fail
                refine (elements_any A w.heap.size n c (0 + 4 + 2 + 2 + 2 + 400 * j + 2 + 2) bs p m w8 hc8 (by omega) p0 p1 (by omega) (by omega)).mono ?_
                rintro e w9 ⟨R9, k9, c9, rfl, hk9, hc9, hg9, ys, hy9⟩
                have hm9 := hm8.grown hg9 (by omega)
                go_wp2_with fail
                go_ret3
                exact ⟨p, some ⟨g, 0, none⟩, j, cap, R9, k9, c9, rfl, i64Small (by omega) (by omega), by omega, hk9, belowCur ((hgg7.trans hg8).trans hg9), ⟨_, hm9.toM⟩, ys, hy9.has⟩
              | true =>
                go_wp2_with fail
                refine (elements_any A w.heap.size n c (0 + 4 + 2 + 2 + 2 + 400 * j + 2 + 2) bs p (m + 1) w8 hc8 (by omega) p0 p1 (by omega) (by omega)).mono ?_
                rintro e w9 ⟨R9, k9, c9, rfl, hk9, hc9, hg9, ys, hy9⟩
                have hm9 := hm8.grown hg9 (by omega)
                go_wp2_with fail
                go_ret3
                exact ⟨p, some ⟨g, 0, none⟩, j, cap, R9, k9, c9, rfl, i64Small (by omega) (by omega), by omega, hk9, belowCur ((hgg7.trans hg8).trans hg9), ⟨_, hm9.toM⟩, ys, hy9.has⟩
          · go_wp2_with fail
            refine (one_any A w.heap.size n c (0 + 4 + 2 + 2 + 2 + 400 * j) bs 24 wr hcur (by omega) (by omega) (by omega)).mono ?_
            rintro e w8 ⟨b8, rfl, hc8, hg8⟩
            have hm8 := hmat.grown hg8 (by omega)
            cases b8 with
            | false =>
              go_wp2_with fail
              refine (elements_any A w.heap.size n c (0 + 4 + 2 + 2 + 2 + 400 * j + 2) bs p m w8 hc8 (by omega) p0 p1 (by omega) (by omega)).mono ?_
              rintro e w9 ⟨R9, k9, c9, rfl, hk9, hc9, hg9, ys, hy9⟩
              have hm9 := hm8.grown hg9 (by omega)
              go_wp2_with fail
              go_ret3
              exact ⟨p, some ⟨g, 0, none⟩, j, cap, R9, k9, c9, rfl, i64Small (by omega) (by omega), by omega, hk9, belowCur ((hgr.trans hg8).trans hg9), ⟨_, hm9.toM⟩, ys, hy9.has⟩
            | true =>
              go_wp2_with fail
              refine (elements_any A w.heap.size n c (0 + 4 + 2 + 2 + 2 + 400 * j + 2) bs p (m + 1) w8 hc8 (by omega) p0 p1 (by omega) (by omega)).mono ?_
              rintro e w9 ⟨R9, k9, c9, rfl, hk9, hc9, hg9, ys, hy9⟩
              have hm9 := hm8.grown hg9 (by omega)
              go_wp2_with fail
              go_ret3
              exact ⟨p, some ⟨g, 0, none⟩, j, cap, R9, k9, c9, rfl, i64Small (by omega) (by omega), by omega, hk9, belowCur ((hgr.trans hg8).trans hg9), ⟨_, hm9.toM⟩, ys, hy9.has⟩

end Go.Proofs.Ytkmnhdnifpglnaa
