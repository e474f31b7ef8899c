/- What the program's small functions over lists of lists do: copies, the closures of SolveLinear and eliminate, the search for a row. For slices of at most 16777216 elements. -/
import Derived.Test.YtkmnhdnifpglnaaMat1
import Derived.Deep.RegionLaw
import Derived.Deep.AppendLies
namespace Go.Proofs.Ytkmnhdnifpglnaa
open Go.RowKit

set_option maxHeartbeats 1000000 in
theorem clone_any (ad : Addr) (n c : Nat) (zs : List Int) (w : World) (h : Has w (some ad) n zs) (hn : n ≤ 16777216) :
    Calls Try.prog 63 #[.slice (some ad) n c] w fun e w' => ∃ R c', e = .returned (.slice R n c') ∧ Own w' w.heap.size R n c' zs ∧ Below w.heap.size w w' := by
  have hB1 := belowNew w (.cells #[] 3)
  have own0 : (w.alloc (.cells #[] 3)).ownsRow w.heap.size 3 1 (.slice (some ⟨w.heap.size, 0, none⟩) 0 0) 0 (vals []) := World.ownsRow_lit w #[] 0 (Nat.le_refl _) (Nat.zero_le _) rfl
  have hT := h.below hB1
  have hne : ∀ w : World, Sem.run Try.prog (binOp BinOp.eql 32 (.slice (some ad) n c) (.slice none 0 0)) w = .ok (.bool false) w := fun _ => rfl
  go_enter Try.func63, Try.ntmps63
  go_wp2_with (at_builtin; refine appendMany _ rfl (.tmp 5) (.tmp 6) rfl w.heap.size _ (some ad) 0 n c [] zs rfl own0 rfl (fun e => by cases e) hT (by omega) (by omega) hB1.size ?_; intro v1 w1 own1 b1; rw [Nat.zero_add, List.nil_append] at own1)
  go_ret
  obtain ⟨R, c', rfl, ho⟩ := ownOf own1
  exact ⟨R, c', rfl, ho, hB1.trans b1⟩

set_option maxHeartbeats 1000000 in
theorem rowClosure_any (ad : Addr) (m c : Nat) (L : List Int) (Y : Option Addr) (q cq : Nat) (ys : List Int) (b i : Nat) (y : Int) (w : World) (h : Has w (some ad) m L) (hm : m ≤ 1048576) (hY : Has w Y q ys) (hb : w.cell? ⟨b, 0, none⟩ = some (.slice Y q cq)) (hbs : b < w.heap.size) (hi : i < q) (hy : ys.getD i 0 = y) :
    Calls Try.prog 62 #[.int .i64 (i : Int), .slice (some ad) m c, .pointer (some ⟨b, 0, none⟩)] w fun e w' => ∃ R c', e = .returned (.slice R (m + 1) c') ∧ Own w' w.heap.size R (m + 1) c' (L ++ [y]) ∧ Below w.heap.size w w' := by
  have HY := Lib.hid hy
  clear hy
  have i0 : (0 : Int) ≤ (i : Int) := by omega
  have i1 : (i : Int) < (q : Int) := by omega
  go_enter Try.func62, Try.ntmps62
  obtain ⟨i0', hi', hz0, hz1, hz2⟩ := info_parts infoInt
  obtain ⟨ay, y', rfl, hcy, HY'⟩ := hY.elem hi
  obtain rfl : y' = y := HY'.out.trans HY.out
  have hYd : Has w.drew (some ay) q ys := hY
  have hd : Has w.drew (some ad) m L := h
  have hd2 : Has (w.alloc (.cells #[.int .i64 y'] 3)).drew (some ad) m L := (show Has (w.alloc (.cells #[.int .i64 y'] 3)) (some ad) m L from h.below (belowNew _ _))
  have hcn0 : (w.alloc (.cells #[.int .i64 y'] 3)).drew.cell? ⟨w.heap.size, 0, none⟩ = some (.int .i64 y') := (cell_one_new w (.int .i64 y') 3 0 _ rfl)
  have hszn : (w.alloc (.cells #[.int .i64 y'] 3)).drew.heap.size = w.heap.size + 1 := World.size_alloc _ _
  go_wp2_with fail
  go_region_law (first
    | (go_simp; go_at_call 63; refine (clone_any ad m c L w.drew hd (by omega)).mono ?_; rintro e w1 ⟨R, c', rfl, ho, hb1⟩; have hbx := cellKept hb1 hbs hb; obtain ⟨ay2, y2, e2, hcy2, HY2⟩ := (hYd.below hb1).elem hi; obtain rfl := Option.some.inj e2; obtain rfl : y' = y2 := HY'.out.trans HY2.out.symm)
    | (go_simp; go_at_call 63; refine (clone_any ad m c L (w.alloc (.cells #[.int .i64 y'] 3)).drew hd2 (by omega)).mono ?_; rintro e w1 ⟨R, c', rfl, ho, hb1⟩; have hcn := cellKept hb1 (by rw [hszn]; omega) hcn0)
    | (refine step_append_lies _ rfl (.tmp 7) (.tmp 12) _ rfl w.heap.size 3 i0' (.int .i64 0) 1 8 Try.underlying32 hi' hz0 hz1 hz2 rfl (by decide) (.slice R m c') m (vals L) (by simp [Act.eval]) ((ho.below (belowNew w1 (.cells #[.int .i64 y'] 3))).2.mono (Nat.le_refl _)) ⟨w1.heap.size, 0, none⟩ 1 1 [.int .i64 y'] (by simp [Act.eval]) (by simp) (cell_one_new _ _ _) (by simp [Value.oneCell']) (by omega) (by simp only [maxLen]; omega) (by omega) (by have := hb1.size; simp at this ⊢; omega) _ rfl ?_; intro g cap w2 hrow hgr _ _; have hbz := ((((Below.refl w.heap.size w).drew).trans hb1).alloc (o := .cells #[.int .i64 y'] 3) hb1.size).grown hgr (by have := hb1.size; simp at this ⊢; omega) (fun k hk => (ho.2.lt k hk).1))
    | (refine step_append_lies _ rfl (.tmp 7) (.tmp 12) _ rfl w.heap.size 3 i0' (.int .i64 0) 1 8 Try.underlying32 hi' hz0 hz1 hz2 rfl (by decide) (.slice R m c') m (vals L) (by simp [Act.eval]) (ho.2.mono (by rw [hszn]; omega)) ⟨w.heap.size, 0, none⟩ 1 1 [.int .i64 y'] (by simp [Act.eval]) (by simp) (by intro j u hj; match j, hj with | 0, hj => simp at hj; subst hj; exact hcn) (by simp [Value.oneCell']) (by omega) (by simp only [maxLen]; omega) (by omega) (by have := hb1.size; simp at this ⊢; omega) _ rfl ?_; intro g cap w2 hrow hgr _ _; have hbz := (((((Below.refl w.heap.size w).alloc (Nat.le_refl _) (.cells #[.int .i64 y'] 3)).drew).trans (hb1.mono (by rw [hszn]; omega)))).grown hgr (by have := hb1.size; rw [hszn] at this; omega) (fun k hk => by have := (ho.2.lt k hk).1; rw [hszn] at this; omega)))
  all_goals
    go_wp2
    go_ret
    exact ⟨_, cap, rfl, ⟨by rw [List.length_append, h.1]; rfl, by rw [vals_append]; exact hrow⟩, hbz⟩

end Go.Proofs.Ytkmnhdnifpglnaa
