/- What the model's reader of choices does: it gives numbers in their ranges, and writes only its own block. For readers that have read at most 2^40 bytes. -/
import Derived.Test.YtjalpankapakkaaDoorLists
namespace Go.Proofs.YtjalpankapakkaaDoor
open Go.RowKit

/-- The slice of n bytes at address A reads as bs. -/
def HasB (w : World) (A : Option Addr) (n : Nat) (bs : List Int) : Prop :=
  bs.length = n ∧ (0 < n → ∃ ad : Addr, A = some ad ∧ ad.block < w.heap.size ∧ ∀ k, k < n → w.cell? (ad.add k) = some (.int .u8 (bs.getD k 0))) ∧ ∀ k, k < n → 0 ≤ bs.getD k 0 ∧ bs.getD k 0 ≤ 255

section
variable {w w' : World} {A : Option Addr} {n : Nat} {bs : List Int}
theorem HasB.keep (h : HasB w A n bs) (hs : w.heap.size ≤ w'.heap.size) (hk : 0 < n → ∀ ad : Addr, A = some ad → ad.block < w.heap.size → w'.heap[ad.block]? = w.heap[ad.block]?) : HasB w' A n bs :=
  ⟨h.1, fun hn => by
    obtain ⟨ad, rfl, hb, hc⟩ := h.2.1 hn
    refine ⟨ad, rfl, by omega, fun k hkn => ?_⟩
    have hq : w'.heap[(ad.add k).block]? = w.heap[(ad.add k).block]? := by rw [addBlock]; exact hk hn ad rfl hb
    exact (World.cell?_of_block hq).trans (hc k hkn), h.2.2⟩
theorem HasB.below (h : HasB w A n bs) (hb : Below w.heap.size w w') : HasB w' A n bs := h.keep hb.size fun _ _ _ hlt => hb.block _ hlt
theorem HasB.elem {k : Nat} (h : HasB w A n bs) (hk : k < n) : ∃ (ad : Addr) (z : Int), A = some ad ∧ w.cell? (ad.add k) = some (.int .u8 z) ∧ 0 ≤ z ∧ z ≤ 255 := by
  obtain ⟨ad, e, _, hc⟩ := h.2.1 (by omega)
  exact ⟨ad, _, e, hc k hk, h.2.2 k hk⟩
end

/-- A number that fits an unsigned 64 bit word: kept behind a name, the numeral is too great for a walk. -/
def U64 (q : Int) : Prop := 0 ≤ q ∧ q ≤ 18446744073709551615
theorem U64.wrap (n : Int) : U64 (IntKind.u64.wrap n) := by
  unfold U64
  have := IntKind.wrap_u64 n
  omega

/-- The reader in block g, over the bytes bs, of which at most K have been read. -/
def Cur (w : World) (g : Nat) (A : Option Addr) (n c : Nat) (bs : List Int) (K : Nat) : Prop :=
  ∃ (p : Nat) (q : Int), w.heap[g]? = some (.cells #[.slice A n c, .int .i64 (p : Int), .int .u64 q] 49 (0, 0)) ∧ p ≤ K ∧ U64 q ∧ HasB w A n bs ∧ (0 < n → ∀ ad : Addr, A = some ad → ad.block < g)

section
variable {w w' : World} {A : Option Addr} {g n c K : Nat} {bs : List Int}
theorem Cur.lt (h : Cur w g A n c bs K) : g < w.heap.size := by
  obtain ⟨p, q, hg, _⟩ := h
  exact (Array.getElem?_eq_some_iff.1 hg).1
theorem Cur.keep (h : Cur w g A n c bs K) (hs : w.heap.size ≤ w'.heap.size) (hk : ∀ k, k ≤ g → w'.heap[k]? = w.heap[k]?) : Cur w' g A n c bs K := by
  obtain ⟨p, q, h1, h2, h3, h4, h5⟩ := h
  exact ⟨p, q, (hk g (Nat.le_refl _)).trans h1, h2, h3, h4.keep hs (fun hn ad e _ => hk _ (Nat.le_of_lt (h5 hn ad e))), h5⟩
theorem Cur.below {B : Nat} (h : Cur w g A n c bs K) (hg : g < B) (hb : Below B w w') : Cur w' g A n c bs K := h.keep hb.size (fun k hk => hb.block k (by omega))
theorem Cur.more {K' : Nat} (h : Cur w g A n c bs K) (hK : K ≤ K') : Cur w g A n c bs K' := by
  obtain ⟨p, q, h1, h2, h3⟩ := h
  exact ⟨p, q, h1, by omega, h3⟩
end

/-- The reader's block behind a reading. -/
theorem cur_turn {w : World} {A : Option Addr} {g n c K p : Nat} {q q' : Int} {bs : List Int} (hg : w.heap[g]? = some (.cells #[.slice A n c, .int .i64 (p : Int), .int .u64 q] 49 (0, 0))) (hp : p ≤ K) (hq : U64 q') (hB : HasB w A n bs)
    (hne : 0 < n → ∀ ad : Addr, A = some ad → ad.block < g) (a b : Nat) :
    Cur ((((w.drewN a).setCell ⟨g, 1, none⟩ (.int .i64 ((p : Int) + 1))).setCell ⟨g, 2, none⟩ (.int .u64 q')).drewN b) g A n c bs (K + 1) ∧
      w.grownBy ((((w.drewN a).setCell ⟨g, 1, none⟩ (.int .i64 ((p : Int) + 1))).setCell ⟨g, 2, none⟩ (.int .u64 q')).drewN b) (some g) := by
  have hg0 : (w.drewN a).heap[g]? = some (.cells #[.slice A n c, .int .i64 (p : Int), .int .u64 q] 49 (0, 0)) := hg
  have h1 := heap_setCell_same (w.drewN a) g 1 _ _ (.int .i64 ((p : Int) + 1)) hg0
  have h2 := heap_setCell_same ((w.drewN a).setCell ⟨g, 1, none⟩ (.int .i64 ((p : Int) + 1))) g 2 _ _ (.int .u64 q') h1
  have hgr : w.grownBy ((((w.drewN a).setCell ⟨g, 1, none⟩ (.int .i64 ((p : Int) + 1))).setCell ⟨g, 2, none⟩ (.int .u64 q')).drewN b) (some g) :=
    ⟨rfl, rfl, rfl, by simp [World.setCell], fun k _ hk => by
      have hkg : k ≠ g := fun e => hk (by rw [e])
      show (((w.drewN a).setCell ⟨g, 1, none⟩ _).setCell ⟨g, 2, none⟩ _).heap[k]? = _
      rw [Below.heap_setCell _ _ _ _ (by exact hkg), Below.heap_setCell _ _ _ _ (by exact hkg)]
      rfl⟩
  exact ⟨⟨p + 1, q', h2, by omega, hq, hB.keep hgr.size (fun hn ad e hlt => hgr.block _ hlt (fun h => by have := hne hn ad e; injection h with h; omega)), hne⟩, hgr⟩

theorem and255 (x : Int) : 0 ≤ bits .and .u64 x 255 ∧ bits .and .u64 x 255 ≤ 255 := by
  show 0 ≤ IntKind.u64.wrap (((BitVec.ofInt 64 x) &&& (BitVec.ofInt 64 255)).toNat : Int) ∧ IntKind.u64.wrap (((BitVec.ofInt 64 x) &&& (BitVec.ofInt 64 255)).toNat : Int) ≤ 255
  have h : ((BitVec.ofInt 64 x) &&& (BitVec.ofInt 64 255)).toNat ≤ 255 := by
    rw [BitVec.toNat_and]
    exact Nat.le_trans Nat.and_le_right (by decide)
  rw [IntKind.wrap_u64]
  omega

theorem and255w (x : Int) : 0 ≤ wrap64 (bits .and .u64 x 255) ∧ wrap64 (bits .and .u64 x 255) ≤ 255 := by
  have h := and255 x
  rw [IntWalk.wrap64_in _ ⟨by omega, by omega⟩]
  exact h

set_option maxHeartbeats 400000 in
theorem next_any (A : Option Addr) (g n c K : Nat) (bs : List Int) (w : World) (h : Cur w g A n c bs K) (hK : K ≤ 1099511627776) :
    Calls Tryd.prog 64 #[.pointer (some ⟨g, 0, none⟩)] w fun e w' => ∃ b : Int, e = .returned (.int .i64 b) ∧ 0 ≤ b ∧ b ≤ 255 ∧ Cur w' g A n c bs (K + 1) ∧ w.grownBy w' (some g) := by
  obtain ⟨p, q, hg, hp, hq, hB, hne⟩ := h
  have hc0 : w.cell? ⟨g, 0, none⟩ = some (.slice A n c) := by rw [cell_of_row w g 0 _ _ _ hg]; rfl
  have hc1 : w.cell? ⟨g, 1, none⟩ = some (.int .i64 (p : Int)) := by rw [cell_of_row w g 1 _ _ _ hg]; rfl
  have hc2 : w.cell? ⟨g, 2, none⟩ = some (.int .u64 q) := by rw [cell_of_row w g 2 _ _ _ hg]; rfl
  have hf : ∀ j, w.frozen? ⟨g, j, none⟩ = false := fun j => frozen_of_row w g j _ _ hg
  have p0 : (0 : Int) ≤ (p : Int) := by omega
  have HG := Lib.hid hg
  have HQ := Lib.hid hq
  clear hg hq
  by_cases hlt : p < n
  · obtain ⟨ad, z, rfl, hc, z0, z1⟩ := hB.elem hlt
    have p1 : (p : Int) < (n : Int) := by omega
    go_enter Tryd.func64, Tryd.ntmps64
    go_wp2
    go_quiet (fail)
    go_wp2
    go_quiet (fail)
    go_wp2
    go_quiet (fail)
    go_wp2
    go_ret
    obtain ⟨t1, t2⟩ := cur_turn HG.out hp (U64.wrap _) hB hne _ _
    exact ⟨z, rfl, z0, z1, t1, t2⟩
  · have p1 : ¬ (p : Int) < (n : Int) := by omega
    have p2 : ¬ (p : Int) + 1 ≤ (n : Int) := by omega
    go_enter Tryd.func64, Tryd.ntmps64
    go_wp2
    go_quiet (fail)
    go_wp2
    go_quiet (fail)
    go_wp2
    go_ret
    obtain ⟨t1, t2⟩ := cur_turn HG.out hp (U64.wrap _) hB hne _ _
    exact ⟨_, rfl, (and255w _).1, (and255w _).2, t1, t2⟩

set_option maxHeartbeats 400000 in
theorem pick_any (A : Option Addr) (g n c K : Nat) (bs : List Int) (m : Int) (w : World) (h : Cur w g A n c bs K) (hK : K ≤ 1073741824) (hm0 : -1073741824 ≤ m) (hm1 : m ≤ 1073741824) :
    Calls Tryd.prog 44 #[.pointer (some ⟨g, 0, none⟩), .int .i64 m] w fun e w' => ∃ x : Int, e = .returned (.int .i64 x) ∧ 0 ≤ x ∧ (x < m ∨ x = 0) ∧ Cur w' g A n c bs (K + 2) ∧ w.grownBy w' (some g) := by
  by_cases h1 : m ≤ 1
  · go_enter Tryd.func44, Tryd.ntmps44
    go_wp2_with fail
    go_ret
    exact ⟨0, rfl, by omega, .inr rfl, h.more (by omega), World.grownBy.refl _ _⟩
  · by_cases h2 : 200 < m
    · go_enter Tryd.func44, Tryd.ntmps44
      go_wp2_with fail
      refine (next_any A g n c K bs _ h (by omega)).mono ?_
      rintro e w1 ⟨x, rfl, x0, x1, hc1, hg1⟩
      go_wp2_with fail
      refine (next_any A g n c (K + 1) bs _ hc1 (by omega)).mono ?_
      rintro e w2 ⟨y, rfl, y0, y1, hc2, hg2⟩
      have e0 := Int.emod_nonneg (x * 256 + y) (show m ≠ 0 by omega)
      have e1 := Int.emod_lt_of_pos (x * 256 + y) (show 0 < m by omega)
      go_wp2_with fail
      go_ret
      exact ⟨_, rfl, e0, .inl e1, hc2, hg1.trans hg2⟩
    · go_enter Tryd.func44, Tryd.ntmps44
      go_wp2_with fail
      refine (next_any A g n c K bs _ h (by omega)).mono ?_
      rintro e w1 ⟨x, rfl, x0, x1, hc1, hg1⟩
      have e0 := Int.emod_nonneg x (show m ≠ 0 by omega)
      have e1 := Int.emod_lt_of_pos x (show 0 < m by omega)
      go_wp2_with fail
      go_ret
      exact ⟨_, rfl, e0, .inl e1, hc1.more (by omega), hg1⟩

set_option maxHeartbeats 400000 in
theorem one_any (A : Option Addr) (g n c K : Nat) (bs : List Int) (m : Int) (w : World) (h : Cur w g A n c bs K) (hK : K ≤ 1073741824) (hm0 : -1073741824 ≤ m) (hm1 : m ≤ 1073741824) :
    Calls Tryd.prog 49 #[.pointer (some ⟨g, 0, none⟩), .int .i64 m] w fun e w' => ∃ b : Bool, e = .returned (.bool b) ∧ Cur w' g A n c bs (K + 2) ∧ w.grownBy w' (some g) := by
  go_enter Tryd.func49, Tryd.ntmps49
  go_wp2_with fail
  refine (pick_any A g n c K bs m _ h hK hm0 hm1).mono ?_
  rintro e w1 ⟨x, rfl, x0, x1, hc1, hg1⟩
  go_wp2_with fail
  go_ret
  exact ⟨_, rfl, hc1, hg1⟩

set_option maxHeartbeats 400000 in
theorem among_any (A : Option Addr) (g n c K : Nat) (bs : List Int) (L : Option Addr) (k d : Nat) (zs : List Int) (w : World) (h : Cur w g A n c bs K) (hL : Has w L k zs) (ho : 0 < k → ∀ ad : Addr, L = some ad → ad.block ≠ g) (hk : 0 < k) (hk2 : k ≤ 1000000) (hK : K ≤ 1073741824) :
    Calls Tryd.prog 39 #[.pointer (some ⟨g, 0, none⟩), .slice L k d] w fun e w' => ∃ z : Int, e = .returned (.int .i64 z) ∧ z ∈ zs ∧ Cur w' g A n c bs (K + 2) ∧ w.grownBy w' (some g) := by
  go_enter Tryd.func39, Tryd.ntmps39
  go_wp2_with fail
  refine (pick_any A g n c K bs (k : Int) _ h hK (by omega) (by omega)).mono ?_
  rintro e w1 ⟨x, rfl, x0, x1, hc1, hg1⟩
  obtain ⟨j, rfl⟩ : ∃ j : Nat, x = (j : Int) := ⟨x.toNat, by omega⟩
  have hj : j < k := by omega
  have hL1 : Has w1 L k zs := hL.keep hg1.size (fun ad e hlt => hg1.block _ hlt (fun h => ho hk ad e (by injection h)))
  obtain ⟨ad, z, rfl, hcz, HZ⟩ := hL1.elem hj
  go_wp2_with fail
  go_ret
  refine ⟨z, rfl, ?_, hc1, hg1⟩
  rw [HZ.out]
  have hl := hL.1
  rw [List.getD, List.getElem?_eq_getElem (by omega)]
  exact List.getElem_mem _

/-- All elements are bits. -/
def AllBits (zs : List Int) : Prop := ∀ k, k < zs.length → 0 ≤ zs.getD k 0 ∧ zs.getD k 0 ≤ 1
theorem AllBits.snoc {zs : List Int} {x : Int} (h : AllBits zs) (h0 : 0 ≤ x) (h1 : x ≤ 1) : AllBits (zs ++ [x]) := by
  intro k hk
  rw [List.length_append, List.length_singleton] at hk
  by_cases e : k < zs.length
  · have := h k e
    rwa [List.getD, List.getElem?_append_left e] 
  · obtain rfl : k = zs.length := by omega
    simp [List.getD, h0, h1]

set_option maxHeartbeats 400000 in
theorem bits_any (A : Option Addr) (g n c K : Nat) (bs : List Int) (m : Int) (w : World) (h : Cur w g A n c bs K) (hK : K ≤ 536870912) (hm0 : -1073741824 ≤ m) (hm1 : m ≤ 4096) :
    Calls Tryd.prog 58 #[.pointer (some ⟨g, 0, none⟩), .int .i64 m] w fun e w' => ∃ R k c', e = .returned (.slice R k c') ∧ ∃ zs, Own w' w.heap.size R k c' zs ∧ AllBits zs ∧ k ≤ 4096 ∧ ((k : Int) ≤ m ∨ k = 0) ∧ Cur w' g A n c bs (K + 8192) ∧ w.grownBy w' (some g) := by
  have hgl := h.lt
  go_enter Tryd.func58, Tryd.ntmps58
  go_wp2
  go_loopw [1, 5] (fun i v wr => ∃ (j : Nat) (zs : List Int), (j : Int) ≤ 4096 ∧ ((j : Int) ≤ m ∨ j = 0) ∧ i = .int .i64 (m - (j : Int)) ∧ Hid (zs.length = j) ∧ AllBits zs ∧ wr.ownsRow w.heap.size 3 1 v j (vals zs) ∧ Cur wr g A n c bs (K + 2 * j) ∧ w.grownBy wr (some g)) (fun i _ _ => (intOf i).toNat)
  case atStart => exact ⟨0, [], by omega, .inr rfl, by simp, rfl, fun k hk => absurd hk (by simp), World.ownsRow_nil _ _ _ _, h, World.grownBy.refl _ _⟩
  case round =>
    obtain ⟨j, zs, hj, hjm, rfl, HL, hab, hown, hcur, hgr⟩ := hrel
    have hsz := hgr.size
    by_cases hlt : (j : Int) < m
    · go_wp2_with (first
        | (go_at_call 44; refine (pick_any A g n c (K + 2 * j) bs 2 _ hcur (by omega) (by omega) (by omega)).mono ?_; rintro e w1 ⟨x, rfl, x0, x1, hc1, hg1⟩; have hown1 := ownStays hown hg1 hgl; have hs1 := hg1.size)
        | (at_builtin; refine appendInt w1 rfl (.tmp 10) (.tmp 13) rfl x w.heap.size _ j _ rfl rfl hown1 (by omega) (by omega) ?_; intro v' w2 hown2 hb2))
      have hx1 : x ≤ 1 := by omega
      go_roundw
      case rel =>
        refine ⟨j + 1, zs ++ [x], by omega, .inl (by omega), by go_num, by show _ = _; rw [List.length_append, HL.out]; rfl, hab.snoc x0 hx1, hown2, (hc1.below hgl hb2), ?_⟩
        exact grownThen (hgr.trans hg1) hb2
      case measure => simp [intOf]; omega
    · go_wp2
      go_ret
      obtain ⟨R, c', rfl, ho⟩ := ownOf hown
      exact ⟨R, j, c', rfl, zs, ho, hab, by omega, hjm, hcur.more (by omega), hgr⟩

set_option maxHeartbeats 1000000 in
theorem anyBits_any (A : Option Addr) (g n c K : Nat) (bs : List Int) (w : World) (h : Cur w g A n c bs K) (hK : K ≤ 16777216) :
    Calls Tryd.prog 33 #[.pointer (some ⟨g, 0, none⟩)] w fun e w' => ∃ R k c', e = .returned (.slice R k c') ∧ ∃ zs, Own w' w.heap.size R k c' zs ∧ k ≤ 100 ∧ Cur w' g A n c bs (K + 20000) ∧ w.grownBy w' (some g) := by
  have hgl := h.lt
  go_enter Tryd.func33, Tryd.ntmps33
  go_wp2_with fail
  refine (pick_any A g n c K bs 10 _ h (by omega) (by omega) (by omega)).mono ?_
  rintro e w1 ⟨x, rfl, x0, x1, hc1, hg1⟩
  have hs1 := hg1.size
  go_wp2_with fail
  refine (bits_any A g n c (K + 2) bs x _ hc1 (by omega) (by omega) (by omega)).mono ?_
  rintro e w2 ⟨R, k, c', rfl, zs, ho, hab, hk, hkm, hc2, hg2⟩
  have hs2 := hg2.size
  go_wp2_with fail
  refine (pick_any A g n c (K + 2 + 8192) bs 24 _ hc2 (by omega) (by omega) (by omega)).mono ?_
  rintro e w3 ⟨y, rfl, y0, y1, hc3, hg3⟩
  have hs3 := hg3.size
  have ho3 : Own w3 w1.heap.size R k c' zs := ⟨ho.1, ownStays ho.2 hg3 (by omega)⟩
  have hgg := (hg1.trans hg2).trans hg3
  clear hc1 hg1 hc2 hg2 hg3 ho
  by_cases c0 : y = 0
  · subst c0
    have hbl : Has (w3.alloc (.cells #[.int .i64 (-1), .int .i64 2] 3)) (some ⟨w3.heap.size, 0, none⟩) 2 [-1, 2] := by
      refine ⟨rfl, fun _ => ⟨_, rfl, by simp, fun j hj => ?_⟩⟩
      rcases (show j = 0 ∨ j = 1 by omega) with rfl | rfl <;> simp [Addr.add]
    have hc4 : Cur (w3.alloc (.cells #[.int .i64 (-1), .int .i64 2] 3)) g A n c bs (K + 2 + 8192 + 2) := hc3.below (B := w3.heap.size) (by omega) ((Below.refl _ _).alloc (Nat.le_refl _) _)
    go_wp2_with fail
    refine (among_any A g n c (K + 2 + 8192 + 2) bs _ 2 2 [-1, 2] _ hc4 hbl (fun _ ad e => by injection e with e; subst e; show w3.heap.size ≠ g; omega) (by omega) (by omega) (by omega)).mono ?_
    rintro e w4 ⟨z, rfl, hz, hc5, hg5⟩
    have hs4 := hg5.size
    have hgr5 := (grownThen hgg ((Below.refl w.heap.size w3).alloc (by omega) (.cells #[.int .i64 (-1), .int .i64 2] 3))).trans hg5
    have ho5 : w4.ownsRow w1.heap.size 3 1 (.slice R k c') k (vals zs) := ownStays (ho3.2.alloc _) hg5 (by omega)
    have hs4' : w1.heap.size ≤ w4.heap.size := by simp at hs4; omega
    go_wp2_with (at_builtin; refine appendInt w4 rfl (.tmp 12) (.tmp 16) rfl z w1.heap.size _ k _ rfl rfl ho5 (by omega) hs4' ?_; intro v' w5 hown5 hb5)
    go_ret
    obtain ⟨R5, c5, rfl, ho6⟩ := ownOf hown5
    exact ⟨R5, k + 1, c5, rfl, zs ++ [z], ho6.mono hs1, by omega, (hc5.below (by omega) hb5).more (by omega), grownThen hgr5 (hb5.mono hs1)⟩
  · by_cases c1 : y = 1
    · subst c1
      go_wp2_with fail
      refine (pick_any A g n c (K + 2 + 8192 + 2) bs 2 _ hc3 (by omega) (by omega) (by omega)).mono ?_
      rintro e w4 ⟨z, rfl, z0, z1, hc4, hg4⟩
      have hs4 := hg4.size
      go_wp2_with fail
      refine (bits_any A g n c (K + 2 + 8192 + 2 + 2) bs (16 + z) _ hc4 (by omega) (by omega) (by omega)).mono ?_
      rintro e w5 ⟨R5, k5, c5, rfl, zs5, ho5, hab5, hk5, hkm5, hc5, hg5⟩
      go_wp2_with fail
      go_ret
      exact ⟨R5, k5, c5, rfl, zs5, ho5.mono (by omega), by omega, hc5.more (by omega), (hgg.trans hg4).trans hg5⟩
    · by_cases c2 : y = 2
      · subst c2
        go_wp2_with fail
        refine (pick_any A g n c (K + 2 + 8192 + 2) bs 2 _ hc3 (by omega) (by omega) (by omega)).mono ?_
        rintro e w4 ⟨z, rfl, z0, z1, hc4, hg4⟩
        have hs4 := hg4.size
        go_wp2_with fail
        refine (bits_any A g n c (K + 2 + 8192 + 2 + 2) bs (64 + z) _ hc4 (by omega) (by omega) (by omega)).mono ?_
        rintro e w5 ⟨R5, k5, c5, rfl, zs5, ho5, hab5, hk5, hkm5, hc5, hg5⟩
        go_wp2_with fail
        go_ret
        exact ⟨R5, k5, c5, rfl, zs5, ho5.mono (by omega), by omega, hc5.more (by omega), (hgg.trans hg4).trans hg5⟩
      · go_wp2_with fail
        go_ret
        exact ⟨R, k, c', rfl, zs, ho3.mono hs1, by omega, hc3.more (by omega), hgg⟩

/-- A list of integers that is built in place. -/
theorem hasLit {w : World} {vs : Array Value} {zs : List Int} {n : Nat} (hl : zs.length = n) (hv : vs.toList = vals zs) : Has (w.alloc (.cells vs 3)) (some ⟨w.heap.size, 0, none⟩) n zs := by
  refine ⟨hl, fun _ => ⟨_, rfl, by simp, fun j hj => ?_⟩⟩
  have e : (⟨w.heap.size, 0, none⟩ : Addr).add j = ⟨w.heap.size, j, none⟩ := by unfold Addr.add; split <;> simp_all
  rw [e, World.cell?_alloc_at _ _ _ _ rfl, ← vals_at zs j (by omega), ← hv]
  simp

/-- A new reader over the bytes bs. -/
theorem curNew {w : World} {A : Option Addr} {n : Nat} {bs : List Int} (c : Nat) (h : HasB w A n bs) : Cur (w.alloc (.cells #[.slice A n c, .int .i64 0, .int .u64 0] 49)) w.heap.size A n c bs 0 := by
  refine ⟨0, 0, heap_alloc_new w _, Nat.le_refl _, ?_, h.below ((Below.refl _ _).alloc (Nat.le_refl _) _), fun hn ad e => ?_⟩
  · unfold U64; omega
  · obtain ⟨ad', e', hb, _⟩ := h.2.1 hn
    rw [e] at e'
    injection e' with e'
    rw [e']
    exact hb
theorem belowCur {w w' : World} {o : Obj} (h : (w.alloc o).grownBy w' (some w.heap.size)) : Below w.heap.size w w' :=
  ((Below.refl _ _).alloc (Nat.le_refl _) o).grown h (by simp) (fun k hk => by injection hk with hk; omega)

end Go.Proofs.YtjalpankapakkaaDoor
