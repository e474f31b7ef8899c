/- Whether the marks in lines of programs are still there. For lists of at most 1048576 lines. -/
import Derived.Test.YtcbofogmfelpkaaDoorLn6
namespace Go.Proofs.YtcbofogmfelpkaaDoor
open Go Go.RowKit
set_option maxRecDepth 100000

set_option maxRecDepth 100000 in
set_option maxHeartbeats 4000000 in
theorem heldLineS_any (A : Option Addr) (n c m : Nat) (F : Nat → Option Addr × Nat × Nat) (w : World) (h : HasL w A n (lmarks F m n)) (hn : n ≤ 1048576) (hm0 : 0 < m) (hoff : offN F m n ≤ 16777216) :
    Calls Tryd.prog 39 #[.slice A n c, .int .i64 (m : Int)] w fun e w' => e = .returned (.int .i64 ((offN F m n : Nat) : Int)) ∧ Below w.heap.size w w' := by
  have HH := Lib.hid h
  have HO := Lib.hid hoff
  have HB0 := Lib.hid (Below.refl w.heap.size w)
  clear h hoff
  go_enter Tryd.func39, Tryd.ntmps39
  go_wp2_with fail
  go_loopw [1, 5] (fun q i wr => ∃ (k o : Nat), k ≤ n ∧ i = .int .i64 k ∧ q = .int .i64 (o : Int) ∧ Hid (offN F m k = o) ∧ Hid (Below w.heap.size w wr)) (fun _ i _ => n - (intOf i).toNat)
  case atStart => exact ⟨0, m, Nat.zero_le _, rfl, rfl, rfl, HB0⟩
  case round =>
    obtain ⟨k, o, hk, rfl, rfl, ho, bk⟩ := hrel
    by_cases hlt : k < n
    · obtain ⟨ad, x, P, p, d, rfl, hc, hp, _, _, HT⟩ := (HH.out.below bk.out).elem hlt
      have hx := HT.out
      rw [lmarks_at _ _ _ _ hlt, ho.out] at hx
      subst hx
      clear HT
      have hoo : o + 6 + (F k).2.1 ≤ 16777216 ∧ 0 < o := by
        have h1 := (offN_le F m (j := k + 1) (k := n) (by omega)).2
        have h2 := HO.out
        have h3 := (offN_le F m (j := 0) (k := k) (by omega)).1
        have h4 := ho.out
        have h5 := (offN_le F m (j := k) (k := k) (by omega)).1
        rw [offN, h4] at h1
        omega
      obtain ⟨q, hq⟩ : ∃ q, (F k).2.1 = q := ⟨_, rfl⟩
      have HN : Hid (offN F m (k + 1) = o + 6 + q) := by show _ = _; rw [offN, ho.out, hq]
      rw [hq] at hc hp hoo
      obtain ⟨hoo, ho0⟩ := hoo
      obtain rfl : p = q := by have := hp.1; simp only [lnMark, smarks_length] at this; omega
      obtain ⟨c0, c1, c2, c3, c4, c5, c6⟩ := hc
      simp only [lnMark] at c0 c1 c2 c3 c4 c5 c6 hp
      obtain ⟨t1, ht1⟩ : ∃ t, mtx ((o + 1 : Nat) : Int) = t := ⟨_, rfl⟩
      obtain ⟨t2, ht2⟩ : ∃ t, mtx ((o + 2 : Nat) : Int) = t := ⟨_, rfl⟩
      rw [ht1] at c1
      rw [ht2] at c2
      have k0 : (0 : Int) ≤ (k : Int) := by omega
      have k1 : (k : Int) < (n : Int) := by omega
      have hlb : ad.block < wr.heap.size := by
        have := World.block_lt_of_cell? wr _ c0
        rwa [addBlock] at this
      have key : ∀ (a : Addr) (v : Value) (W' : World), a.block = ad.block → Below wr.heap.size wr W' → wr.cell? a = some v → W'.cell? a = some v := fun a v W' ha hb hv => (World.cell?_of_block (hb.block _ (by rw [ha]; exact hlb))).trans hv
      have hab : (ad.add (k * 7)).block = ad.block := addBlock _ _
      have e4 : ((o + 3 + p : Nat) : Int) = (o : Int) + 3 + (p : Int) := by omega
      have e5 : ((o + 4 + p : Nat) : Int) = (o : Int) + 3 + (p : Int) + 1 := by omega
      have e6 : ((o + 5 + p : Nat) : Int) = (o : Int) + 3 + (p : Int) + 1 + 1 := by omega
      rw [e4] at c4
      rw [e5] at c5
      rw [e6] at c6
      have K1 : Hid (∀ W', Below wr.heap.size wr W' → W'.cell? ⟨(ad.add (k * 7)).block, (ad.add (k * 7)).off + 1, none⟩ = some (.string t1)) := fun W' hb => key _ _ W' hab hb c1
      have K2 : Hid (∀ W', Below wr.heap.size wr W' → W'.cell? ⟨(ad.add (k * 7)).block, (ad.add (k * 7)).off + 2, none⟩ = some (.string t2)) := fun W' hb => key _ _ W' hab hb c2
      have K3 : Hid (∀ W', Below wr.heap.size wr W' → W'.cell? ⟨(ad.add (k * 7)).block, (ad.add (k * 7)).off + 3, none⟩ = some (.slice P p d) ∧ W'.cell? ⟨(ad.add (k * 7)).block, (ad.add (k * 7)).off + 4, none⟩ = some (.int .i64 ((o : Int) + 3 + (p : Int))) ∧ W'.cell? ⟨(ad.add (k * 7)).block, (ad.add (k * 7)).off + 5, none⟩ = some (.int .i64 ((o : Int) + 3 + (p : Int) + 1)) ∧ W'.cell? ⟨(ad.add (k * 7)).block, (ad.add (k * 7)).off + 6, none⟩ = some (.int .i64 ((o : Int) + 3 + (p : Int) + 1 + 1))) :=
        fun W' hb => ⟨key _ _ W' hab hb c3, key _ _ W' hab hb c4, key _ _ W' hab hb c5, key _ _ W' hab hb c6⟩
      have D : Below wr.heap.size wr wr.drew := (Below.refl _ wr).drew
      have M1 : Hid (∀ W, Calls Tryd.prog 60 #[.int .i64 ((o : Int) + 1)] W fun e w' => e = .returned (.string t1) ∧ Below W.heap.size W w') := fun W => (markText_any (o + 1) W (by omega) (by omega)).mono fun e w' h => by
        obtain ⟨t', rfl, HT', b⟩ := h
        have : t' = t1 := by rw [HT'.out]; exact ht1
        subst this
        exact ⟨rfl, b⟩
      have M2 : Hid (∀ W, Calls Tryd.prog 60 #[.int .i64 ((o : Int) + 1 + 1)] W fun e w' => e = .returned (.string t2) ∧ Below W.heap.size W w') := fun W => (markText_any (o + 2) W (by omega) (by omega)).mono fun e w' h => by
        obtain ⟨t', rfl, HT', b⟩ := h
        have : t' = t2 := by rw [HT'.out]; exact ht2
        subst this
        exact ⟨rfl, b⟩
      have M3 : Hid (∀ W, HasS W P p (smarks ((o + 3 : Nat) : Int) p) → Calls Tryd.prog 36 #[.slice P p d, .int .i64 ((o : Int) + 1 + 1 + 1)] W fun e w' => e = .returned (.int .i64 ((o : Int) + 3 + (p : Int))) ∧ Below W.heap.size W w') := fun W hW => (heldStringS_any P p d (o + 3) W hW (by omega) (by omega) (by omega)).mono fun e w' h => by
        obtain ⟨rfl, b⟩ := h
        exact ⟨by congr 2, b⟩
      have HP := Lib.hid hp
      clear ht1 ht2 e4 e5 e6 key hab hlb c1 c2 c3 c4 c5 c6 hp hq
      go_wp2_with fail
      first
        | (go_region_held3 (fun W' => W'.cell? ⟨(ad.add (k * 7)).block, (ad.add (k * 7)).off + 1, none⟩ = some (.string t1)) (first | exact K1.out _ D | exact K1.out _ B2 | go_keep) ((go_at_call 60; refine (M1.out wr.drew).mono ?_; rintro e w2 ⟨rfl, b2⟩; have B2 := D.trans (b2.mono D.size))))
        | fail
      have D2 : Below wr.heap.size wr w2.drew := B2.drew
      clear D b2
      go_wp2_with fail
      first
        | (go_region_held3 (fun W' => W'.cell? ⟨(ad.add (k * 7)).block, (ad.add (k * 7)).off + 2, none⟩ = some (.string t2)) (first | exact K2.out _ D2 | exact K2.out _ B3 | go_keep) ((go_at_call 60; refine (M2.out w2.drew).mono ?_; rintro e w3 ⟨rfl, b3⟩; have B3 := D2.trans (b3.mono D2.size))))
        | fail
      obtain ⟨g3, _⟩ := K3.out _ B3
      clear D2 b3 B2
      go_wp2_with fail
      refine (M3.out w3 (HP.out.below B3)).mono ?_
      rintro e w4 ⟨rfl, b4⟩
      have B4 := B3.trans (b4.mono B3.size)
      obtain ⟨_, g4, g5, g6⟩ := K3.out _ B4
      have HB4 := Lib.hid (bk.out.trans (B4.mono bk.out.size))
      clear b4 B3 g3 B4
      go_wp2_with fail
      go_roundw
      case rel => exact ⟨k + 1, o + 6 + p, by omega, by go_num, by congr 1; omega, HN, HB4⟩
      case measure => simp [intOf]; omega
    · obtain rfl : k = n := by omega
      go_wp2_with fail
      go_ret
      exact ⟨retI (by rw [ho.out]), bk.out⟩

end Go.Proofs.YtcbofogmfelpkaaDoor
