/- The model's used wires. For every circuit of at most 1048576 gates and outs. -/
import Derived.Test.YteiibneaihdmbaaCirM4
import Derived.Test.YteiibneaihdmbaaCirG6
namespace Go.Proofs.Yteiibneaihdmbaa
open Go.RowKit
set_option maxRecDepth 100000

set_option maxHeartbeats 400000 in
theorem l1Has_mem (A : Option Addr) (n c : Nat) (zs : List Int) (x : Int) (b : Bool) (w : World) (h : Has w A n zs) (hn : n ≤ 16777216) (hb : zs.contains x = b) : Calls Try.prog 105 #[.slice A n c, .int .i64 x] w fun e w' => e = .returned (.bool b) ∧ w = w' := by
  have HL := Lib.hid h.1
  have HB := Lib.hid hb
  clear hb
  go_enter Try.func105, Try.ntmps105
  go_wp2
  go_loop [9] (fun i => ∃ k : Nat, k ≤ n ∧ i = .int .i64 k ∧ Hid (∀ j, j < k → zs.getD j 0 ≠ x)) (fun i => n - (intOf i).toNat)
  case atStart => exact ⟨0, Nat.zero_le _, rfl, fun j hj => absurd hj (by omega)⟩
  case round =>
    obtain ⟨k, hk, rfl, HN⟩ := hrel
    by_cases hlt : k < n
    · obtain ⟨ad, z, rfl, hc, HZ⟩ := h.elem hlt
      have k0 : (0 : Int) ≤ (k : Int) := by omega
      have k1 : (k : Int) < (n : Int) := by omega
      by_cases he : z = x
      · have e : b = true := by
          rw [← HB.out, contains_iff, memAt]
          exact ⟨k, by rw [HL.out]; exact hlt, by rw [← HZ.out]; exact he⟩
        subst e
        subst he
        go_wp2
        go_ret
        exact ⟨rfl, rfl⟩
      · have HN2 : Hid (∀ j, j < k + 1 → zs.getD j 0 ≠ x) := fun j hj => by
          by_cases e : j = k
          · rw [e, ← HZ.out]; exact he
          · exact HN.out j (by omega)
        go_wp2
        go_round
        case rel => exact ⟨k + 1, by omega, by go_num, HN2⟩
        case measure => simp [intOf]; omega
    · have e : b = false := by
        rw [← HB.out]
        cases hq : zs.contains x with
        | false => rfl
        | true =>
          rw [contains_iff, memAt] at hq
          obtain ⟨j, hj, e⟩ := hq
          exact absurd e (HN.out j (by have := HL.out; omega))
      subst e
      go_wp2
      go_ret
      exact ⟨rfl, rfl⟩

/-- A rising list that holds a set. -/
def Rises (w : World) (R : Option Addr) (m c : Nat) (P : Int → Prop) : Prop := m ≤ c ∧ NilOk R m c ∧ ∃ zs : List Int, Has w R m zs ∧ zs.Pairwise (· < ·) ∧ ∀ y, y ∈ zs ↔ P y
theorem Rises.below {w w' : World} {R : Option Addr} {m c : Nat} {P : Int → Prop} (h : Rises w R m c P) (hb : Below w.heap.size w w') : Rises w' R m c P := by
  obtain ⟨h1, h2, zs, h3, h4, h5⟩ := h
  exact ⟨h1, h2, zs, h3.below hb, h4, h5⟩
theorem Rises.eq {w : World} {R : Option Addr} {m c : Nat} {P Q : Int → Prop} (h : Rises w R m c P) (hq : ∀ y, P y ↔ Q y) : Rises w R m c Q := by
  obtain ⟨h1, h2, zs, h3, h4, h5⟩ := h
  exact ⟨h1, h2, zs, h3, h4, fun y => (h5 y).trans (hq y)⟩
theorem putRises (R : Option Addr) (m c : Nat) (P : Int → Prop) (x : Int) (w : World) (h : Rises w R m c P) (hm : m ≤ 16777216) :
    Calls Try.prog 169 #[.slice R m c, .int .i64 x] w fun e w' => ∃ R' m' c', e = .returned (.slice R' m' c') ∧ Rises w' R' m' c' (fun y => y = x ∨ P y) ∧ m' ≤ m + 1 ∧ Below w.heap.size w w' := by
  obtain ⟨h1, h2, zs, h3, h4, h5⟩ := h
  refine (l1Put_any R m c zs x w h3 hm h1 h2 h4).mono ?_
  rintro e w' ⟨R', m', c', rfl, k1, k2, b, rs, k3, k4, k5, k6⟩
  exact ⟨R', m', c', rfl, ⟨k1, k2, rs, k3, k4, fun y => (k5 y).trans (or_congr Iff.rfl (h5 y))⟩, by rw [k6, putLen]; split <;> omega, b⟩

end Go.Proofs.Yteiibneaihdmbaa
