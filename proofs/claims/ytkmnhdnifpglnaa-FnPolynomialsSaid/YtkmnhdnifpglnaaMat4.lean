/- One step of Gauss's elimination, as the program takes it. For at most 6 equations over a small field. -/
import Derived.Test.YtkmnhdnifpglnaaMat3
import Derived.Deep.RegionHeld3
namespace Go.Proofs.Ytkmnhdnifpglnaa
open Go.RowKit Go.Shelf

/-- The first row from the r-th on, of at most f, in which column k is not 0. -/
def pivGo (M : Nat → List Int) (k : Nat) : Nat → Nat → Nat
  | 0, r => r
  | f + 1, r => if (M r).getD k 0 ≠ 0 then r else pivGo M k f (r + 1)
def pivot (M : Nat → List Int) (k n : Nat) : Nat := pivGo M k (n - k) k
theorem pivGo_eq {M : Nat → List Int} {k n r : Nat} (hlt : ∀ i, i < r → k ≤ i → (M i).getD k 0 = 0) (hat : r < n → (M r).getD k 0 ≠ 0) (hr : r ≤ n) : ∀ (f r0 : Nat), k ≤ r0 → r0 + f = n → r0 ≤ r → pivGo M k f r0 = r := by
  intro f
  induction f with
  | zero => intro r0 _ hf hle; rw [pivGo]; omega
  | succ f ih =>
    intro r0 hk hf hle
    rw [pivGo]
    by_cases e : r0 = r
    · rw [if_pos (by rw [e]; exact hat (by omega)), e]
    · rw [if_neg (by rw [hlt r0 (by omega) hk]; simp)]
      exact ih (r0 + 1) (by omega) (by omega) (by omega)
theorem pivot_eq {M : Nat → List Int} {k n r : Nat} (hk : k ≤ r) (hr : r ≤ n) (hlt : ∀ i, i < r → k ≤ i → (M i).getD k 0 = 0) (hat : r < n → (M r).getD k 0 ≠ 0) : pivot M k n = r :=
  pivGo_eq hlt hat hr (n - k) k (Nat.le_refl _) (by omega) hk

/-- Rows k and r changed places. -/
def swM (M : Nat → List Int) (k r : Nat) : Nat → List Int := fun i => if i = r then M k else if i = k then M r else M i
/-- The row R times the inverse of its k-th element. -/
def solR (p : Int) (n k : Nat) (R : List Int) : List Int := mapTo (fun c => R.getD c 0 * powM p (R.getD k 0) (p.toNat - 2) % p) (n + 1)
def elimR (p : Int) (n k : Nat) (S R : List Int) : List Int := mapTo (fun c => (R.getD c 0 + (p - R.getD k 0) * S.getD c 0) % p) (n + 1)
/-- The equations when the unknown k is eliminated by row r. -/
def nextM (p : Int) (n : Nat) (M : Nat → List Int) (k r : Nat) : Nat → List Int := fun i => if i = k then solR p n k (swM M k r k) else elimR p n k (solR p n k (swM M k r k)) (swM M k r i)
/-- n rows of n + 1 elements of the field. -/
def GoodM (p : Int) (n : Nat) (M : Nat → List Int) : Prop := ∀ i, i < n → (M i).length = n + 1 ∧ ∀ j, 0 ≤ (M i).getD j 0 ∧ (M i).getD j 0 < p

section
variable {p : Int} {n k r : Nat} {M : Nat → List Int}
theorem GoodM.sw (h : GoodM p n M) (hk : k < n) (hr : r < n) : GoodM p n (swM M k r) := fun i hi => by
  unfold swM
  split
  · exact h k hk
  · split
    · exact h r hr
    · exact h i hi
theorem solR_in (h : 2 ≤ p) {R : List Int} : ∀ j, 0 ≤ (solR p n k R).getD j 0 ∧ (solR p n k R).getD j 0 < p := all_in h (mapTo_in h)
theorem GoodM.next (h2 : 2 ≤ p) : GoodM p n (nextM p n M k r) := fun i _ => by
  unfold nextM
  split
  · exact ⟨mapTo_length _ _, solR_in h2⟩
  · exact ⟨mapTo_length _ _, all_in h2 (mapTo_in h2)⟩
end

theorem Has.stored {w : World} {R : Option Addr} {m : Nat} {L : List Int} (h : Has w R m L) {g : Nat} (hne : ∀ ad : Addr, R = some ad → ad.block ≠ g) (k : Nat) (u : Value) : Has (w.setCell ⟨g, k, none⟩ u) R m L :=
  h.grown (grown_setCell (World.grownBy.refl w (some g)) k u) (fun ad e => by simpa using hne ad e)
theorem MatR.drew {w : World} {S g n : Nat} {M : Nat → List Int} (h : MatR w S g n M) : MatR w.drew S g n M := h
theorem grownCell {w w' : World} {g b i : Nat} {v : Value} (hg : w.grownBy w' (some g)) (hb : b < w.heap.size) (hne : b ≠ g) (hc : w.cell? ⟨b, i, none⟩ = some v) : w'.cell? ⟨b, i, none⟩ = some v :=
  (World.cell?_of_block (hg.block b hb (by simpa using hne))).trans hc
theorem grownTrans {a b c : World} {g : Nat} (h : a.grownBy b (some g)) (h' : b.grownBy c (some g)) : a.grownBy c (some g) :=
  ⟨h'.os.trans h.os, h'.tape.trans h.tape, h'.output.trans h.output, Nat.le_trans h.size h'.size, fun k hk hne => (h'.block k (Nat.lt_of_lt_of_le hk h.size) hne).trans (h.block k hk hne)⟩

set_option maxRecDepth 100000 in
set_option maxHeartbeats 1000000 in
theorem eliminate_any (p : Int) (S g n k : Nat) (M : Nat → List Int) (w : World) (p2 : 2 ≤ p) (p251 : p ≤ 251) (hk : k < n) (hn : n ≤ 6) (hm : MatR w S g n M) (hM : GoodM p n M) :
    Calls Try.prog 64 #[.int .i64 p, .slice (some ⟨g, 0, none⟩) n n, .int .i64 (k : Int)] w fun e w' =>
      (e = .returned (.bool false) ∧ Below w.heap.size w w' ∧ Hid (pivot M k n = n)) ∨ (∃ r, r < n ∧ e = .returned (.bool true) ∧ w.grownBy w' (some g) ∧ Hid (pivot M k n = r) ∧ MatR w' S g n (nextM p n M k r)) := by
  have HM := Lib.hid hM
  have bP := Boxed.new w 3 (.int .i64 p)
  have bK := Boxed.new (w.alloc (.cells #[.int .i64 p] 3)) 3 (.int .i64 (k : Int))
  simp only [World.size_alloc] at bK
  have cP := (bP.alloc (.cells #[.int .i64 (k : Int)] 3)).cell
  have cK := bK.cell
  obtain ⟨w3, hw3⟩ : ∃ w3, (w.alloc (.cells #[.int .i64 p] 3)).alloc (.cells #[.int .i64 (k : Int)] 3) = w3 := ⟨_, rfl⟩
  have hB0 : Below w.heap.size w w3 := by rw [← hw3]; exact ((Below.refl _ w).alloc (Nat.le_refl _) _).alloc (by simp) _
  have hs3 : w3.heap.size = w.heap.size + 2 := by rw [← hw3]; simp
  rw [hw3] at cP cK
  have hm3 := hm.below hB0
  have hgl := hm.lt.2
  have HW := Lib.hid hw3
  clear hM bP bK hw3
  have ht := hm3.tail k
  go_enter Try.func64, Try.ntmps64
  go_wp2_with fail
  rw [HW.out]
  refine (indexFunc_any (some ⟨g, k, none⟩) (n - k) (n - k) (fun i => M (k + i)) k (w.heap.size + 1) w3 ht (by omega) (fun i hi => by have := (HM.out (k + i) (by omega)).1; omega) cK).mono ?_
  rintro e w' ⟨i, rfl, rfl, ⟨rfl, HP⟩ | ⟨r0, hr0, rfl, HP⟩⟩
  · go_wp2
    go_ret
    refine .inl ⟨rfl, hB0, ?_⟩
    refine pivot_eq (by omega) (Nat.le_refl _) (fun i hi hki => ?_) (fun h => by omega)
    have := HP.out (i - k) (by omega)
    rwa [show k + (i - k) = i by omega] at this
  · have HPV : Hid (pivot M k n = r0 + k) := by
      refine pivot_eq (by omega) (by omega) (fun i hi hki => ?_) (fun _ => ?_)
      · have := HP.out.2 (i - k) (by omega)
        rwa [show k + (i - k) = i by omega] at this
      · have := HP.out.1
        rwa [Nat.add_comm] at this
    obtain ⟨Rk, mk, ck, hck, hRk, hk1, hk2, hk3, hk4⟩ := hm3.elem hk
    have hrn : r0 + k < n := by omega
    obtain ⟨Rr, mr, cr, hcr, hRr, hr1, hr2, hr3, hr4⟩ := hm3.elem hrn
    have hfk := hm3.free k
    have hfr := hm3.free (r0 + k)
    have kk0 : (0 : Int) ≤ (k : Int) := by omega
    have kk1 : (k : Int) < (n : Int) := by omega
    have rr0 : (0 : Int) ≤ (r0 : Int) + (k : Int) := by omega
    have rr1 : (r0 : Int) + (k : Int) < (n : Int) := by omega
    have hm4 := hm3.put hk hRr hr1 hr2 hr3 hr4
    obtain ⟨Rz, mz, cz, hcz, _⟩ := hm4.elem hrn
    have hcz' : (w3.setCell ⟨g, k, none⟩ (.slice Rr mr cr)).drew.cell? ⟨g, r0 + k, none⟩ = some (.slice Rz mz cz) := hcz
    have hfz' : (w3.setCell ⟨g, k, none⟩ (.slice Rr mr cr)).drew.frozen? ⟨g, r0 + k, none⟩ = false := hm4.free (r0 + k)
    have hm5 := (hm4.put hrn (hRk.stored hk4 k (.slice Rr mr cr)) hk1 hk2 hk3 hk4).ext (M' := swM M k (r0 + k)) (fun i _ => rfl)
    go_wp2_with fail
    go_region
    have hG5 : w3.grownBy ((w3.setCell ⟨g, k, none⟩ (.slice Rr mr cr)).setCell ⟨g, r0 + k, none⟩ (.slice Rk mk ck)).drew (some g) := by
      have h := grown_setCell (grown_setCell (World.grownBy.refl w3 (some g)) k (.slice Rr mr cr)) (r0 + k) (.slice Rk mk ck)
      exact ⟨h.os, h.tape, h.output, h.size, h.block⟩
    have hS5 : ((w3.setCell ⟨g, k, none⟩ (.slice Rr mr cr)).setCell ⟨g, r0 + k, none⟩ (.slice Rk mk ck)).drew.heap.size = w.heap.size + 2 := by rw [← hs3]; exact (World.size_setCell _ _ _).trans (World.size_setCell _ _ _)
    replace hm5 := hm5.drew
    obtain ⟨w5, hw5⟩ : ∃ w5, ((w3.setCell ⟨g, k, none⟩ (.slice Rr mr cr)).setCell ⟨g, r0 + k, none⟩ (.slice Rk mk ck)).drew = w5 := ⟨_, rfl⟩
    rw [hw5] at hm5 hG5 hS5 ⊢
    have cP5 := grownCell hG5 (by omega) (by omega) cP
    have cK5 := grownCell hG5 (by omega) (by omega) cK
    have HM5 := Lib.hid (HM.out.sw hk hrn)
    clear hm4 hcz hcz' hfz' hw5 hck hcr hRk hRr hfk hfr hk4 hr4 hm3 ht cP cK HP
    obtain ⟨Ra, ma, ca, hca, hRa, ha1, ha2, ha3, ha4⟩ := hm5.elem hk
    obtain rfl : ma = n + 1 := by rw [← hRa.1]; exact (HM5.out k hk).1
    obtain ⟨ra, rfl⟩ := hRa.some_ (by omega)
    obtain ⟨ra', a, e', hcz, HA⟩ := hRa.elem (k := k) (by omega)
    obtain rfl := Option.some.inj e'
    obtain ⟨a0, a1⟩ : 0 ≤ a ∧ a < p := by rw [HA.out]; exact (HM5.out k hk).2 k
    obtain ⟨f, hf⟩ : ∃ f, powM p a (p.toNat - 2) = f := ⟨_, rfl⟩
    obtain ⟨f0, f1⟩ : 0 ≤ f ∧ f < p := by rw [← hf]; exact powM_in (by omega)
    have HF := Lib.hid hf
    clear hf
    have kn1 : (k : Int) < (n : Int) + 1 := by omega
    go_wp2
    have hKeep : ∀ W : World, Below w5.heap.size w5 W → W.cell? ⟨w.heap.size, 0, none⟩ = some (.int .i64 p) ∧ W.cell? ⟨w.heap.size + 1, 0, none⟩ = some (.int .i64 (k : Int)) ∧ W.cell? ⟨g, k, none⟩ = some (.slice (some ra) (n + 1) ca) ∧ W.cell? (ra.add k) = some (.int .i64 a) := fun W hW => by
      refine ⟨cellKept hW (by omega) cP5, cellKept hW (by omega) cK5, cellKept hW (by omega) hca, ?_⟩
      obtain ⟨ra2, a2, e2, h2, HA2⟩ := (hRa.below hW).elem (k := k) (by omega)
      obtain rfl := Option.some.inj e2
      rw [HA.out, ← HA2.out]
      exact h2
    go_region_held3 (fun w' => w'.cell? ⟨w.heap.size, 0, none⟩ = some (.int .i64 p) ∧ w'.cell? ⟨w.heap.size + 1, 0, none⟩ = some (.int .i64 (k : Int)) ∧ w'.cell? ⟨g, k, none⟩ = some (.slice (some ra) (n + 1) ca) ∧ w'.cell? (ra.add k) = some (.int .i64 a)) (first | exact hKeep _ ((Below.refl _ w5).drew) | exact hKeep _ ((belowNew w5 _).drew) | exact hKeep _ (((belowNew w5 _).drew).setCell (by simp) _) | go_keep) (first | (go_at_call 37; refine (implInv_any p a f _ p2 p251 a0 a1 HF.out).mono ?_; rintro e w' ⟨rfl, rfl⟩))
    all_goals
      clear hKeep
      have hbA := belowNew w5 (.cells #[.int .i64 f] 3)
      have hb6 : Below w5.heap.size w5 (w5.alloc (.cells #[.int .i64 f] 3)).drew := hbA.drew
      have hs6 : (w5.alloc (.cells #[.int .i64 f] 3)).drew.heap.size = w5.heap.size + 1 := World.size_alloc _ _
      have cP6 : (w5.alloc (.cells #[.int .i64 f] 3)).drew.cell? ⟨w.heap.size, 0, none⟩ = some (.int .i64 p) := cellKept hbA (by omega) cP5
      have cK6 : (w5.alloc (.cells #[.int .i64 f] 3)).drew.cell? ⟨w.heap.size + 1, 0, none⟩ = some (.int .i64 (k : Int)) := cellKept hbA (by omega) cK5
      have hca6 : (w5.alloc (.cells #[.int .i64 f] 3)).drew.cell? ⟨g, k, none⟩ = some (.slice (some ra) (n + 1) ca) := cellKept hbA (by omega) hca
      have cN6 : (w5.alloc (.cells #[.int .i64 f] 3)).drew.cell? ⟨w.heap.size + 2, 0, none⟩ = some (.int .i64 f) := by rw [← hS5]; exact cell_one_new w5 (.int .i64 f) 3 0 _ rfl
      go_wp2_with fail
      obtain ⟨w6, hw6⟩ : ∃ w6, (w5.alloc (.cells #[.int .i64 f] 3)).drew = w6 := ⟨_, rfl⟩
      rw [hw6] at cP6 cK6 hca6 hb6 hs6 cN6 ⊢
      have hm6 := hm5.below hb6
      have hR6 := hRa.below hb6
      clear hbA hw6 hm5 hRa hca hcz cP5 cK5
      refine (changedSolved_any p f (some ra) (n + 1) ca (swM M k (r0 + k) k) w.heap.size (w.heap.size + 2) w6 p2 p251 f0 f1 cP6 cN6 (by omega) (by omega) hR6 (by omega) (HM5.out k hk).2).mono ?_
      rintro e w7 ⟨Rs, rfl, ho7, hb7⟩
      have hm7 := hm6.below hb7
      have hG7 : w.grownBy w7 (some g) := grownTrans (grownTrans (grownTrans (grownOf hB0 (some g)) hG5) (grownOf hb6 (some g))) (grownOf hb7 (some g))
      have cP7 := cellKept hb7 (by omega) cP6
      have cK7 := cellKept hb7 (by omega) cK6
      have hsol : mapTo (fun j => (swM M k (r0 + k) k).getD j 0 * f % p) (n + 1) = solR p n k (swM M k (r0 + k) k) := by rw [solR, ← HA.out, HF.out]
      rw [hsol] at ho7
      have hs7 := hb7.size
      clear hb7 hb6 hG5 hm6 hR6 cP6 cK6 hca6 cN6 hsol
      go_wp2
      go_loopw [53] (fun jv wr => ∃ j : Nat, j ≤ n ∧ jv = .int .i64 j ∧ MatR wr S g n (fun i => if i < j then elimR p n k (solR p n k (swM M k (r0 + k) k)) (swM M k (r0 + k) i) else swM M k (r0 + k) i) ∧ w7.grownBy wr (some g)) (fun jv _ => n - (intOf jv).toNat)
      case atStart => exact ⟨0, Nat.zero_le _, rfl, hm7.ext (fun i _ => by simp), World.grownBy.refl _ _⟩
      case round =>
        obtain ⟨j, hj, rfl, hmj, hgj⟩ := hrel
        have cPj := grownCell hgj (by omega) (by omega) cP7
        have cKj := grownCell hgj (by omega) (by omega) cK7
        have hoj := ho7.has.grown hgj (fun ad e => by have := (ho7.born ad e).1; simp; omega)
        have hsj := hgj.size
        by_cases hlt : j < n
        · obtain ⟨Rj, mj, cj, hcj, hRj, hj1, hj2, hj3, hj4⟩ := hmj.elem hlt
          rw [if_neg (Nat.lt_irrefl j)] at hRj
          obtain rfl : mj = n + 1 := by rw [← hRj.1]; exact (HM5.out j hlt).1
          obtain ⟨rj, rfl⟩ := hRj.some_ (by omega)
          obtain ⟨rj', z, e', hcz, HZ⟩ := hRj.elem (k := k) (by omega)
          obtain rfl := Option.some.inj e'
          obtain ⟨z0, z1⟩ : 0 ≤ z ∧ z < p := by rw [HZ.out]; exact (HM5.out j hlt).2 k
          have hw1 : IntKind.i64.wrap (p - z) = p - z := wrapIn (by omega) (by omega)
          have j0 : (0 : Int) ≤ (j : Int) := by omega
          have j1 : (j : Int) < (n : Int) := by omega
          have hKeep : ∀ W : World, wr.grownBy W (some g) → W.cell? ⟨w.heap.size, 0, none⟩ = some (.int .i64 p) ∧ W.cell? ⟨w.heap.size + 1, 0, none⟩ = some (.int .i64 (k : Int)) ∧ W.cell? (rj.add k) = some (.int .i64 z) := fun W hW => by
            refine ⟨grownCell hW (by omega) (by omega) cPj, grownCell hW (by omega) (by omega) cKj, ?_⟩
            obtain ⟨ra2, a2, e2, h2, HA2⟩ := (hRj.grown hW (fun ad e => by simpa using hj4 ad e)).elem (k := k) (by omega)
            obtain rfl := Option.some.inj e2
            rw [HZ.out, ← HA2.out]
            exact h2
          have hRd : Has wr.drew (some rj) (n + 1) (swM M k (r0 + k) j) := hRj
          have hSd : Has wr.drew Rs (n + 1) (solR p n k (swM M k (r0 + k) k)) := hoj
          have hIn1 : Hid (∀ c, c < (swM M k (r0 + k) j).length → 0 ≤ (swM M k (r0 + k) j).getD c 0 ∧ (swM M k (r0 + k) j).getD c 0 < p) := fun c _ => (HM5.out j hlt).2 c
          have hIn2 : Hid (∀ c, c < (solR p n k (swM M k (r0 + k) k)).length → 0 ≤ (solR p n k (swM M k (r0 + k) k)).getD c 0 ∧ (solR p n k (swM M k (r0 + k) k)).getD c 0 < p) := fun c _ => solR_in p2 c
          go_wp2_with fail
          go_region_held3 (fun w' => w'.cell? ⟨w.heap.size, 0, none⟩ = some (.int .i64 p) ∧ w'.cell? ⟨w.heap.size + 1, 0, none⟩ = some (.int .i64 (k : Int)) ∧ w'.cell? (rj.add k) = some (.int .i64 z)) (first | exact hKeep _ (grownOf ((Below.refl _ wr).drew) (some g)) | exact hKeep _ (grownOf (((Below.refl _ wr).drew).trans hb8) (some g)) | exact hKeep _ (grown_setCell (grownOf (((Below.refl _ wr).drew).trans hb8) (some g)) _ _) | go_keep) (first | (go_at_call 76; refine (withMultiple_any p (p - z) (some rj) Rs (n + 1) cj (n + 1) (n + 1) (swM M k (r0 + k) j) (solR p n k (swM M k (r0 + k) k)) wr.drew p2 p251 (by omega) (by omega) hRd hSd (Nat.le_refl _) (by omega) hIn1.out hIn2.out).mono ?_; rintro e w8 ⟨R8, rfl, o8, hb8⟩; have hm8 := hmj.below (((Below.refl wr.heap.size wr).drew).trans hb8); obtain ⟨Ru, mu, cu, hcu, _⟩ := hm8.elem hlt; have hfu := hm8.free j))
          all_goals
            go_wp2
            go_roundw
            case rel =>
              refine ⟨j + 1, by omega, by go_num, ?_, grown_setCell (grownTrans hgj (grownOf (((Below.refl wr.heap.size wr).drew).trans hb8) (some g))) _ _⟩
              refine (hm8.put hlt o8.has (by omega) (Nat.le_refl _) (own_nilOk o8) (o8.apart (by show g < wr.heap.size; omega))).ext fun i hi => ?_
              by_cases e : i = j
              · rw [if_pos e, if_pos (by omega), e, elimR, ← HZ.out]
              · rw [if_neg e]
                by_cases e2 : i < j
                · rw [if_pos e2, if_pos (by omega)]
                · rw [if_neg e2, if_neg (by omega)]
            case measure => simp [intOf]; omega
        · obtain rfl : n = j := by omega
          have hfk := hmj.free k
          obtain ⟨Ru, mu, cu, hcu, _⟩ := hmj.elem hk
          go_wp2
          go_ret
          refine .inr ⟨r0 + k, hrn, rfl, grown_setCell (grownTrans hG7 hgj) _ _, HPV.out, ?_⟩
          refine (hmj.put hk hoj (by omega) (Nat.le_refl _) (fun e => by have := ho7.has.some_ (by omega); rw [e] at this; obtain ⟨_, h⟩ := this; cases h) (fun ad e => by have := (ho7.born ad e).1; omega)).ext fun i hi => ?_
          unfold nextM
          by_cases e : i = k
          · rw [if_pos e, if_pos e]
          · rw [if_neg e, if_neg e, if_pos hi]

end Go.Proofs.Ytkmnhdnifpglnaa
