/- Whether the marks in strings and lines of programs are still there; the comparison of two lists of lines. For lists of at most 1048576 elements. -/
import Derived.Test.YtcbofogmfelpkaaDoorLn5
namespace Go.Proofs.YtcbofogmfelpkaaDoor
open Go Go.RowKit
set_option maxRecDepth 100000

set_option maxRecDepth 100000 in
set_option maxHeartbeats 2000000 in
theorem heldStringS_any (A : Option Addr) (n c m : Nat) (w : World) (h : HasS w A n (smarks (m : Int) n)) (hn : n ≤ 16777216) (hm0 : 0 < m) (hm1 : m ≤ 100000000000) :
    Calls Tryd.prog 36 #[.slice A n c, .int .i64 (m : Int)] w fun e w' => e = .returned (.int .i64 ((m + n : Nat) : Int)) ∧ Below w.heap.size w w' := by
  have HH := Lib.hid h
  clear h
  go_enter Tryd.func36, Tryd.ntmps36
  go_wp2_with fail
  go_loopw [1, 5] (fun q i wr => ∃ (k : Nat), k ≤ n ∧ i = .int .i64 k ∧ q = .int .i64 ((m + k : Nat) : Int) ∧ Below w.heap.size w wr) (fun _ i _ => n - (intOf i).toNat)
  case atStart => exact ⟨0, Nat.zero_le _, rfl, rfl, Below.refl _ _⟩
  case round =>
    obtain ⟨k, hk, rfl, rfl, bk⟩ := hrel
    by_cases hlt : k < n
    · obtain ⟨ad, rfl, hc⟩ := (HH.out.below bk).elem hlt
      rw [smarks_at _ _ _ hlt] at hc
      obtain ⟨o, ho⟩ : ∃ o, m + k = o := ⟨_, rfl⟩
      have hmt : mtx ((m : Int) + (k : Int)) = mtx (o : Int) := by rw [← ho]; rfl
      rw [hmt] at hc
      obtain ⟨t, ht⟩ : ∃ t, mtx (o : Int) = t := ⟨_, rfl⟩
      rw [ht] at hc
      rw [ho]
      have o1 : 0 < o := by omega
      have o2 : o ≤ 1000000000000 := by omega
      have HO := Lib.hid ho
      have HT := Lib.hid ht
      have k0 : (0 : Int) ≤ (k : Int) := by omega
      have k1 : (k : Int) < (n : Int) := by omega
      have hlb : ad.block < wr.heap.size := by
        have := World.block_lt_of_cell? wr _ hc
        rwa [addBlock] at this
      have hK : Hid (∀ W', Below wr.heap.size wr W' → W'.cell? (ad.add k) = some (.string t)) := fun W' hb => (World.cell?_of_block (hb.block _ (by rw [addBlock]; exact hlb))).trans hc
      have D : Below wr.heap.size wr wr.drew := (Below.refl _ wr).drew
      have HMt : Hid (∀ W, Below wr.heap.size wr W → Calls Tryd.prog 60 #[.int .i64 (o : Int)] W fun e w' => e = .returned (.string t) ∧ Below W.heap.size W w') := fun W _ => (markText_any o W o1 o2).mono fun e w' h => by
        obtain ⟨t', rfl, HT', b⟩ := h
        have : t' = t := by rw [HT'.out]; exact HT.out
        subst this
        exact ⟨rfl, b⟩
      clear hmt ho ht hlb
      go_wp2_with fail
      first
        | (go_region_held3 (fun W' => W'.cell? (ad.add k) = some (.string t)) (first | exact hK.out _ D | exact hK.out _ B2 | go_keep) ((go_at_call 60; refine (HMt.out wr.drew D).mono ?_; rintro e w2 ⟨rfl, b2⟩; have B2 := D.trans (b2.mono D.size))))
        | fail
      all_goals
        have B3 := bk.trans (B2.mono bk.size)
        clear hK D HMt hc
        go_wp2_with fail
        go_roundw
        case rel => exact ⟨k + 1, by omega, by go_num, by have := HO.out; congr 1; omega, B3⟩
        case measure => simp [intOf]; omega
    · obtain rfl : k = n := by omega
      go_wp2_with fail
      go_ret
      exact ⟨rfl, bk⟩

set_option maxRecDepth 100000 in
set_option maxHeartbeats 4000000 in
theorem eqLineS_same (A B : Option Addr) (n n' c d : Nat) (ls : List Ln) (w : World) (ha : HasL w A n ls) (hb : HasL w B n' ls) (hn : n ≤ 1048576) (hz : ∀ j, j < n → (lnAt ls j).parts.length ≤ 1048576) :
    Calls Tryd.prog 16 #[.slice A n c, .slice B n' d] w fun e w' => e = .returned (.bool true) ∧ Below w.heap.size w w' := by
  obtain rfl : n = n' := ha.1.symm.trans hb.1
  have HA := Lib.hid ha
  have HB := Lib.hid hb
  have HZ := Lib.hid hz
  clear ha hb hz
  go_enter Tryd.func16, Tryd.ntmps16
  go_wp2_with fail
  go_loopw [5] (fun i wr => ∃ k : Nat, k ≤ n ∧ i = .int .i64 k ∧ Below w.heap.size w wr) (fun i _ => n - (intOf i).toNat)
  case atStart => exact ⟨0, Nat.zero_le _, rfl, Below.refl _ _⟩
  case round =>
    obtain ⟨k, hk, rfl, hbk⟩ := hrel
    by_cases hlt : k < n
    · obtain ⟨ad, x, P, m, e, rfl, hc, hp, _, _, HT⟩ := (HA.out.below hbk).elem hlt
      obtain ⟨bd, x', P', m', e', rfl, hc', hp', _, _, HT'⟩ := (HB.out.below hbk).elem hlt
      obtain rfl : x = x' := HT.out.symm.trans HT'.out
      have hpl := hp.1
      have hz := HZ.out k hlt
      rw [HT.out] at hz
      obtain ⟨c0, c1, c2, c3, c4, c5, c6⟩ := hc
      obtain ⟨d0, d1, d2, d3, d4, d5, d6⟩ := hc'
      have k0 : (0 : Int) ≤ (k : Int) := by omega
      have k1 : (k : Int) < (n : Int) := by omega
      have HE := Lib.hid (fun W hb => eqLine_same x.kind x.name x.op x.parts x.party x.width x.value P P' m e m' e' W (hp.below hb) (hp'.below hb) (by omega))
      clear hp hp' hpl hz
      go_wp2_with fail
      go_still_tail 8, (by kernel_rfl)
      change wpList _ _ _ _ _ wr.drew
      have b2 : Below wr.heap.size wr wr.drew := (Below.refl _ wr).drew
      have B2 := hbk.trans (b2.mono hbk.size)
      have HE2 := Lib.hid (HE.out _ b2)
      generalize wr.drew = w2 at b2 B2 HE2 ⊢
      clear c0 c1 c2 c3 c4 c5 c6 d0 d1 d2 d3 d4 d5 d6 HE
      go_wp2_with fail
      refine (HE2.out).mono ?_
      rintro e w3 ⟨rfl, b3⟩
      go_wp2_with fail
      go_roundw
      case rel => exact ⟨k + 1, by omega, by go_num, B2.trans (b3.mono B2.size)⟩
      case measure => simp [intOf]; omega
    · go_wp2_with fail
      go_ret
      exact ⟨rfl, hbk⟩

end Go.Proofs.YtcbofogmfelpkaaDoor
