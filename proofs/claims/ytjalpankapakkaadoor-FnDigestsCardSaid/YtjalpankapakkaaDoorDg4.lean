/- The program's digest of a list and of what is added to it: its first number is read from the table that start-up lays. For lists of at most 12 words together; the table as its own row lists it. -/
import Derived.Test.YtjalpankapakkaaDoorDg3
namespace Go.Proofs.YtjalpankapakkaaDoor
open Go.RowKit

/-- The table of first numbers holds 40503, 40504, .. -/
def Starts (w : World) : Prop := ∀ k, k < 13 → w.cell? ⟨0, k, none⟩ = some (.int .i64 (40503 + (k : Int)))
theorem Starts.below {w w' : World} (h : Starts w) (hb : Below w.heap.size w w') : Starts w' := fun k hk => by
  have h0 := World.block_lt_of_cell? w _ (h k hk)
  exact (World.cell?_of_block (hb.block _ h0)).trans (h k hk)
theorem Starts.grown {w w' : World} (h : Starts w) {row : Option Nat} (hg : w.grownBy w' row) (hne : some 0 ≠ row) : Starts w' := fun k hk => by
  have h0 := World.block_lt_of_cell? w _ (h k hk)
  exact (World.cell?_of_block (hg.block _ h0 hne)).trans (h k hk)

/-- The three lists whose words are stirred in, and the words before each. -/
def dgPart (zs ys : List Int) (k : Nat) : List Int := if k = 0 then zs else if k = 1 then ys else [8, 1]
def dgPre (zs ys : List Int) (k : Nat) : List Int := if k = 0 then [] else if k = 1 then zs else if k = 2 then zs ++ ys else zs ++ ys ++ [8, 1]
theorem dgPre_succ (zs ys : List Int) {k : Nat} (hk : k < 3) : dgPre zs ys (k + 1) = dgPre zs ys k ++ dgPart zs ys k := by
  rcases (by omega : k = 0 ∨ k = 1 ∨ k = 2) with rfl | rfl | rfl <;> simp [dgPre, dgPart]
theorem dgPart_words {zs ys : List Int} (h : words 12 (zs ++ ys) = true) (k : Nat) : ∀ j, j < (dgPart zs ys k).length → -1000000000 ≤ (dgPart zs ys k).getD j 0 ∧ (dgPart zs ys k).getD j 0 ≤ 1000000000 := by
  rw [words, Bool.and_eq_true, decide_eq_true_eq] at h
  have h2 := h.2
  unfold worded allIn at h2
  rw [List.all_append, Bool.and_eq_true] at h2
  have a1 : allIn (-1000000000) 1000000000 zs = true := h2.1
  have a2 : allIn (-1000000000) 1000000000 ys = true := h2.2
  have a3 : allIn (-1000000000) 1000000000 [8, 1] = true := by decide
  unfold dgPart
  split
  · exact fun j hj => allIn_yes a1 j hj
  · split
    · exact fun j hj => allIn_yes a2 j hj
    · exact fun j hj => allIn_yes a3 j hj

set_option maxHeartbeats 2000000 in
theorem digestOf_any (A : Option Addr) (n c : Nat) (zs : List Int) (B : Option Addr) (m d : Nat) (ys : List Int) (w : World) (h : Has w A n zs) (h' : Has w B m ys) (hT : Starts w) (hz : words 12 (zs ++ ys) = true) :
    Calls Tryd.prog 41 #[.slice A n c, .slice B m d] w fun e w' => e = .returned (.int .i64 (dg (zs ++ ys))) ∧ Below w.heap.size w w' := by
  have hnm : n + m ≤ 12 := by have := (words_yes hz).1; rw [List.length_append, h.1, h'.1] at this; exact this
  have HP : Hid (∀ k j, j < (dgPart zs ys k).length → -1000000000 ≤ (dgPart zs ys k).getD j 0 ∧ (dgPart zs ys k).getD j 0 ≤ 1000000000) := fun k => dgPart_words hz k
  obtain ⟨q, hq⟩ : ∃ q, n + m = q := ⟨_, rfl⟩
  have q12 : q ≤ 12 := by omega
  have hqi : (n : Int) + (m : Int) = (q : Int) := by omega
  have hc0 := hT q (by omega)
  have HD : Hid (stirs (40503 + (q : Int)) (zs ++ ys ++ [8, 1]) % 65536 = dg (zs ++ ys)) := by
    show _ = _
    rw [dg, List.length_append, h.1, h'.1, hq]
  have b1 := belowNew w (.cells #[.int .i64 8, .int .i64 1] 3)
  have b2 := belowNew (w.alloc (.cells #[.int .i64 8, .int .i64 1] 3)) (.cells #[.slice A n c, .slice B m d, .slice (some ⟨w.heap.size, 0, none⟩) 2 2] 24)
  obtain ⟨W, hW⟩ : ∃ W, (w.alloc (.cells #[.int .i64 8, .int .i64 1] 3)).alloc (.cells #[.slice A n c, .slice B m d, .slice (some ⟨w.heap.size, 0, none⟩) 2 2] 24) = W := ⟨_, rfl⟩
  have BW : Below w.heap.size w W := by rw [← hW]; exact b1.trans (b2.mono b1.size)
  have HR : Hid (∀ k, k < 3 → ∃ R s cs, W.cell? ⟨w.heap.size + 1, k, none⟩ = some (.slice R s cs) ∧ Has W R s (dgPart zs ys k) ∧ s ≤ 12) := fun k hk => by
    have hl : Has W (some ⟨w.heap.size, 0, none⟩) 2 [8, 1] := by rw [← hW]; exact (litHas (w := w) (vs := #[.int .i64 8, .int .i64 1]) rfl rfl).below b2
    have e2 : (w.alloc (.cells #[.int .i64 8, .int .i64 1] 3)).heap.size = w.heap.size + 1 := by simp
    rcases (by omega : k = 0 ∨ k = 1 ∨ k = 2) with rfl | rfl | rfl
    · exact ⟨A, n, c, by rw [← hW, ← e2, World.cell?_alloc_at _ _ _ _ rfl]; rfl, h.below BW, by omega⟩
    · exact ⟨B, m, d, by rw [← hW, ← e2, World.cell?_alloc_at _ _ _ _ rfl]; rfl, h'.below BW, by omega⟩
    · exact ⟨_, 2, 2, by rw [← hW, ← e2, World.cell?_alloc_at _ _ _ _ rfl]; rfl, hl, by omega⟩
  have HW := Lib.hid hW
  clear hW b1 b2 hz
  go_enter Tryd.func41, Tryd.ntmps41
  go_wp2
  rw [HW.out]
  go_loop [5, 22] (fun a i => ∃ k : Nat, k ≤ 3 ∧ i = .int .i64 k ∧ ∃ x : Int, a = .int .i64 x ∧ 0 ≤ x ∧ x < 1000003 ∧ Hid (x = stirs (40503 + (q : Int)) (dgPre zs ys k))) (fun _ i => 3 - (intOf i).toNat)
  case atStart => exact ⟨0, Nat.zero_le _, rfl, _, rfl, by omega, by omega, rfl⟩
  case round =>
    obtain ⟨k, hk, rfl, x, rfl, x0, x1, HX⟩ := hrel
    by_cases hlt : k < 3
    · obtain ⟨R, s, cs, hcr, hrow, hs12⟩ := HR.out k hlt
      have k0 : (0 : Int) ≤ (k : Int) := by omega
      have k1 : (k : Int) < 3 := by omega
      go_wp2
      go_loop [5, 28] (fun a i => ∃ j : Nat, j ≤ s ∧ i = .int .i64 j ∧ ∃ y : Int, a = .int .i64 y ∧ 0 ≤ y ∧ y < 1000003 ∧ Hid (y = stirs x ((dgPart zs ys k).take j))) (fun _ i => s - (intOf i).toNat)
      case atStart => exact ⟨0, Nat.zero_le _, rfl, _, rfl, x0, x1, rfl⟩
      case round =>
        obtain ⟨j, hj, rfl, y, rfl, y0, y1, HY⟩ := hrel
        by_cases hjl : j < s
        · obtain ⟨ad, z, rfl, hc, HZ⟩ := hrow.elem hjl
          have HL := Lib.hid hrow.1
          obtain ⟨z0, z1⟩ : -1000000000 ≤ z ∧ z ≤ 1000000000 := by rw [HZ.out]; exact HP.out k j (by rw [HL.out]; exact hjl)
          go_wp2_with fail
          refine (stirred_any y z _ _ y0 y1 z0 z1 rfl).mono ?_
          rintro e w' ⟨rfl, rfl⟩
          obtain ⟨t0, t1⟩ := stir_range y z
          go_wp2
          go_round
          case rel =>
            refine ⟨j + 1, by omega, by go_num, _, rfl, t0, t1, ?_⟩
            show _ = _
            rw [stirs_take _ _ (by rw [HL.out]; exact hjl), ← HY.out, ← HZ.out]
          case measure => simp [intOf]; omega
        · obtain rfl : j = s := by omega
          have HL := Lib.hid hrow.1
          go_wp2
          go_round
          case rel =>
            refine ⟨k + 1, by omega, by go_num, _, rfl, y0, y1, ?_⟩
            show _ = _
            rw [dgPre_succ zs ys hlt, stirs_append, ← HX.out, HY.out, List.take_of_length_le (by rw [HL.out]; exact Nat.le_refl _)]
          case measure => simp [intOf]; omega
    · obtain rfl : k = 3 := by omega
      have tm := tmodPos (a := x) (b := 65536) (by omega)
      go_wp2
      go_ret
      refine ⟨retI ?_, BW⟩
      rw [← HD.out, HX.out]
      rfl

end Go.Proofs.YtjalpankapakkaaDoor
