/- The circuits of the gadgets as mathematics, and a maker that is done. No condition beyond what each lemma names. -/
import Derived.Test.YteiibneaihdmbaaGdM1
import Derived.Test.YteiibneaihdmbaaGdW1
import Derived.Test.YteiibneaihdmbaaCirM1
namespace Go.Proofs.Yteiibneaihdmbaa
open Go Go.RowKit
set_option maxRecDepth 100000

def zeroC : Ci := ⟨0, 0, [], []⟩
/-- The gates and the outs of a gadget, over two numbers of m bits. -/
def kindG (k m : Nat) : List Ga × List Int :=
  match k with
  | 0 => ((carTo (addStep (m + m)) [] (rangeL 0 m) (rangeL m m) m).1, carOuts (addStep (m + m)) [] (rangeL 0 m) (rangeL m m) m)
  | 1 => ((carTo (subStep (m + m)) [] (rangeL 0 m) (rangeL m m) m).1, carOuts (subStep (m + m)) [] (rangeL 0 m) (rangeL m m) m)
  | 2 => ((carTo (subStep (m + m)) [] (rangeL 0 m) (rangeL m m) m).1, (carOuts (subStep (m + m)) [] (rangeL 0 m) (rangeL m m) m).drop m)
  | 3 => let t := eqlTo (m + m) [] (rangeL 0 m) (rangeL m m) m; (t.1, [t.2])
  | 4 => eachTo (pickStep (2 * m + 1) ((2 * m : Nat) : Int) (rangeL 0 m) (rangeL m m)) [] m
  | 5 =>
    let s := carTo (subStep (m + m)) [] (rangeL 0 m) (rangeL m m) m
    eachTo (pickStep (m + m) s.2.2 (rangeL m m) (rangeL 0 m)) s.1 m
  | _ => let t := mulTo (m + m) [] (rangeL 0 m) (rangeL m m) (m - 1); (t.1, t.2.1 ++ t.2.2)
/-- The circuit of a gadget. -/
def kindC (k m : Nat) : Ci := if k = 4 then ⟨((2 * m : Nat) : Int), 1, (kindG k m).1, (kindG k m).2⟩ else ⟨(m : Int), (m : Int), (kindG k m).1, (kindG k m).2⟩
def kindOk (k : Nat) (x : Int) : Bool := decide (1 ≤ x ∧ x ≤ if k = 6 then 5 else 8)
def m_Kind (k : Nat) (x : Int) : Ci × Bool := if kindOk k x then (kindC k x.toNat, true) else (zeroC, false)
/-- Every gadget is a valid circuit. -/
theorem kindGood : ∀ k, k < 7 → ∀ m, m < 9 → 1 ≤ m → (k = 6 → m ≤ 5) → gd (kindC k m) = true := by decide +kernel
theorem kind_cases {k : Nat} {x : Int} (hk : k < 7) : (kindOk k x = false ∧ m_Kind k x = (zeroC, false)) ∨ ∃ m : Nat, x = (m : Int) ∧ 1 ≤ m ∧ m ≤ 8 ∧ (k = 6 → m ≤ 5) ∧ kindOk k x = true ∧ m_Kind k x = (kindC k m, true) ∧ gd (kindC k m) = true := by
  cases h : kindOk k x with
  | false => exact .inl ⟨rfl, by rw [m_Kind, h]; rfl⟩
  | true =>
    have h2 : 1 ≤ x ∧ x ≤ if k = 6 then 5 else 8 := by simpa [kindOk] using h
    have h3 : x ≤ 8 := by have := h2.2; split at this <;> omega
    have h4 : k = 6 → x ≤ 5 := fun e => by have := h2.2; rw [if_pos e] at this; exact this
    refine .inr ⟨x.toNat, by omega, by omega, by omega, fun e => by have := h4 e; omega, rfl, by rw [m_Kind, h]; rfl, kindGood k hk _ (by omega) (by omega) (fun e => by have := h4 e; omega)⟩

theorem kind_small {k : Nat} {x : Int} {RC : Ci} {rb : Bool} (hk : k < 7) (hm : m_Kind k x = (RC, rb)) : RC.gs.length ≤ 1048576 ∧ RC.os.length ≤ 1048576 := by
  rcases kind_cases (k := k) (x := x) hk with ⟨_, h⟩ | ⟨m, _, _, _, _, _, h, hg⟩
  · rw [h] at hm
    obtain ⟨rfl, _⟩ := Prod.mk.inj hm
    exact ⟨by simp [zeroC], by simp [zeroC]⟩
  · rw [h] at hm
    obtain ⟨rfl, _⟩ := Prod.mk.inj hm
    have hG := gd_yes hg
    exact ⟨by have := hG.g; omega, by have := hG.o; omega⟩

theorem zeroOwnZ (w : World) (B : Nat) : OwnC w B (.agg #[.int .i64 0, .int .i64 0, .slice none 0 0, .slice none 0 0]) zeroC := ⟨none, 0, 0, none, 0, 0, rfl, OwnG.nil_ _ _, Own.nil_ _ _⟩

section
variable {w w0 : World} {t : TypeId} {q B S N0 N1 n c m d : Nat} {R O : Option Addr} {G : List Ga} {zs : List Int}
/-- The outs are stored: the maker's block holds a circuit of the call's own. -/
theorem Mk.done (hM : Mk w t q B N0 N1 R n c G) (hO : Own w B O m d zs) (hS : S ≤ B) (hb : Below S w0 w) :
    Blk (w.setCell ⟨q, 3, none⟩ (.slice O m d)) q #[.int .i64 (N0 : Int), .int .i64 (N1 : Int), .slice R n c, .slice O m d] t ∧
    OwnC (w.setCell ⟨q, 3, none⟩ (.slice O m d)) B (.agg #[.int .i64 (N0 : Int), .int .i64 (N1 : Int), .slice R n c, .slice O m d]) ⟨(N0 : Int), (N1 : Int), G, zs⟩ ∧
    Below S w0 (w.setCell ⟨q, 3, none⟩ (.slice O m d)) := by
  have gs : w.grownBy (w.setCell ⟨q, 3, none⟩ (.slice O m d)) (some q) := grown_setCell (World.grownBy.refl _ _) _ _
  refine ⟨hM.blk.set 3 _, ⟨R, n, c, O, m, d, rfl, hM.own.kept gs (fun ad e => by simp; exact hM.apart ad e), hO.kept gs (fun ad e => ?_)⟩, hb.setCell (Nat.le_trans hS hM.base) _⟩
  simp
  rintro rfl
  obtain ⟨xs, hx⟩ := hO.typedI ad e
  have := hM.blk
  unfold Blk at this
  rw [this] at hx
  injection hx with hx
  injection hx with _ hx
  exact hM.notInt hx
end

end Go.Proofs.Yteiibneaihdmbaa
