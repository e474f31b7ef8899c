/- The program's dropUses, and the operations of the map inside a range over a function. No condition beyond what each lemma names. -/
import Derived.Test.YteiibneaihdmbaaCirU1
import Derived.Maps.OwnIn
import Derived.Maps.AppendAt
import Derived.WalkKit
namespace Go.Proofs.Yteiibneaihdmbaa
open Go.RowKit Go.Maps
set_option maxRecDepth 100000

section
variable {F : Fence} {nF : Nat} {w : World} {ops : Array Oper} {rest : List Oper} {o : Oper} {a : Act} {Q : Exit → Act → World → Prop} {b k : Nat} {L : List Int}
theorem MapL.wpLookIn (hg : o.guard = none) (m x : Operand) (hop : o.op = Op.lookup 142 m x false) (hm : a.eval m = .map (some b)) (h : MapL w b k L) (y : Int) (hx : a.eval x = .int .i64 y) (hy : I64 y)
    (hK : wpListIn F nF Try.prog ops Q rest (a.put o.dst (.int .i64 (L.count y : Int))) w) : wpListIn F nF Try.prog ops Q (o :: rest) a w := by
  obtain ⟨D, h1, r1, r2⟩ := h
  refine wpListIn_lookup_own_int w hg m x 142 hop 3 3 .i64 keyedInt Try.underlying142 Try.underlying3 (zeroInt w) b k D hm h1 (.int .i64 y) (kI y) hx (keyOf_int_mk Try.underlying3 (i64Wf hy)) ?_
  intro c hat hwc
  have e : vI (L.count y : Int) = vI c := (r1 y).symm.trans hat
  have e2 : (L.count y : Int) = c := by simpa [vI] using e
  rw [← e2]; exact hK
theorem MapL.wpLookAt (t : Nat) (hg : o.guard = none) (m x : Operand) (hop : o.op = Op.lookup 142 m x false) (hm : a.eval m = .map (some b)) (h : MapL w b k L) (y : Int) (hx : a.eval x = .int .i64 y) (hy : I64 y) (ht : t = L.count y)
    (hK : wpListIn F nF Try.prog ops Q rest (a.put o.dst (.int .i64 (t : Int))) w) : wpListIn F nF Try.prog ops Q (o :: rest) a w := by
  subst ht; exact h.wpLookIn hg m x hop hm y hx hy hK
/-- 'm[y]++'. -/
theorem MapL.wpMoreIn (hg : o.guard = none) (m x v : Operand) (hop : o.op = Op.mapUpdate 142 m x v) (hm : a.eval m = .map (some b)) (h : MapL w b k L) (hk : k ≤ 16777216) (hL : L.length ≤ 16777216) (y : Int) (hx : a.eval x = .int .i64 y) (hy : I64 y)
    (hv : a.eval v = .int .i64 ((L.count y : Int) + 1))
    (hK : ∀ w', MapL w' b (k + 1) (y :: L) → w.grownBy w' (some b) → wpListIn F nF Try.prog ops Q rest (a.put o.dst undef) w') : wpListIn F nF Try.prog ops Q (o :: rest) a w := by
  obtain ⟨D, h1, r1, r2⟩ := h
  have hc : L.count y ≤ L.length := List.count_le_length
  refine wpListIn_mapUpdate_own w hg m x v 142 hop 3 3 keyedInt Try.underlying142 _ b k D hm h1 (by unfold maxLen; omega) (.int .i64 y) _ (kI y) hx hv (keyOf_int_mk Try.underlying3 (i64Wf hy)) (vI ((L.count y : Int) + 1)) [] (plainElem_int Try.underlying3 (i64Wf ⟨by omega, by omega⟩)) ?_
  intro w' h2 hgr
  refine hK w' ⟨_, h2, fun z => ?_, fun z => ?_⟩ hgr
  · by_cases e : z = y
    · subst e
      rw [atKey_put_same h1.isMap (by trivial), List.count_cons_self]
      push_cast; rfl
    · rw [atKey_put_other (kI_ne e), r1 z, List.count_cons_of_ne (fun h => e h.symm)]
  · by_cases e : z = y
    · subst e
      rw [has_put_same h1.isMap (by trivial)]; symm; exact decide_eq_true (List.mem_cons_self ..)
    · rw [has_put_other (kI_ne e), r2 z]
      exact decide_eq_decide.2 ⟨fun h => List.mem_cons_of_mem _ h, fun h => by rcases List.mem_cons.1 h with h | h; exact absurd h e; exact h⟩
theorem MapL.wpMoreAt (t : Nat) (hg : o.guard = none) (m x v : Operand) (hop : o.op = Op.mapUpdate 142 m x v) (hm : a.eval m = .map (some b)) (h : MapL w b k L) (hk : k ≤ 16777216) (hL : L.length ≤ 16777216) (y : Int) (hx : a.eval x = .int .i64 y) (hy : I64 y) (ht : t = L.count y)
    (hv : a.eval v = .int .i64 ((t : Int) + 1))
    (hK : ∀ w', MapL w' b (k + 1) (y :: L) → w.grownBy w' (some b) → wpListIn F nF Try.prog ops Q rest (a.put o.dst undef) w') : wpListIn F nF Try.prog ops Q (o :: rest) a w := by
  subst ht; exact h.wpMoreIn hg m x v hop hm hk hL y hx hy hv hK
end

def valInt : Value → Int
  | .int _ q => q
  | _ => 0
theorem dropCons {zs : List Int} {k : Nat} (h : k < zs.length) (L : List Int) : zs.drop k ++ L = zs.getD k 0 :: (zs.drop (k + 1) ++ L) := by
  rw [List.drop_eq_getElem_cons h, List.cons_append]
  congr 1
  simp [List.getD, h]

/-- The datum holds, for each number, how often it stands in the list. -/
def Means (D : DataW Unit) (L : List Int) : Prop := (∀ x : Int, D.atKey (kI x) (vI 0) = vI (L.count x : Int)) ∧ ∀ x : Int, has D (kI x) = decide (x ∈ L)
theorem vI_inj {a b : Int} (h : vI a = vI b) : a = b := by simpa [vI] using h
theorem lessStep {D : DataW Unit} {z c : Int} {L : List Int} (hL : L.length ≤ 16777216) (hat : D.atKey (kI z) (vI 0) = vI c) (hM : Means D (z :: L)) : wrap64 (c - 1) = (L.count z : Int) := by
  have e := vI_inj ((hM.1 z).symm.trans hat)
  rw [List.count_cons_self] at e
  have := List.count_le_length (a := z) (l := L)
  rw [← e]
  unfold wrap64
  push_cast
  omega
theorem lessDrop {D : DataW Unit} {z : Int} {L : List Int} {d : DataW Unit} (hM : Means D (z :: L)) (h0 : L.count z = 0) : Means ((D.put (kI z) d).del (kI z)) L := by
  refine ⟨fun x => ?_, fun x => ?_⟩
  · by_cases e : x = z
    · subst e; rw [atKey_del_same, h0]; rfl
    · rw [atKey_del_other (kI_ne e), atKey_put_other (kI_ne e), hM.1 x, List.count_cons_of_ne (fun h => e h.symm)]
  · by_cases e : x = z
    · subst e; rw [has_del_same]; symm; exact decide_eq_false (List.count_eq_zero.1 h0)
    · rw [has_del_other (kI_ne e), has_put_other (kI_ne e), hM.2 x]
      exact decide_eq_decide.2 ⟨fun h => by rcases List.mem_cons.1 h with h | h; exact absurd h e; exact h, fun h => List.mem_cons_of_mem _ h⟩
theorem lessKeep {D : DataW Unit} (hD : IsMap D) {z : Int} {L : List Int} (hM : Means D (z :: L)) (h0 : L.count z ≠ 0) : Means (D.put (kI z) (vI (L.count z : Int))) L := by
  refine ⟨fun x => ?_, fun x => ?_⟩
  · by_cases e : x = z
    · subst e; rw [atKey_put_same hD (by trivial)]
    · rw [atKey_put_other (kI_ne e), hM.1 x, List.count_cons_of_ne (fun h => e h.symm)]
  · by_cases e : x = z
    · subst e; rw [has_put_same hD (by trivial)]; symm; exact decide_eq_true (List.count_pos_iff.1 (by omega))
    · rw [has_put_other (kI_ne e), hM.2 x]
      exact decide_eq_decide.2 ⟨fun h => by rcases List.mem_cons.1 h with h | h; exact absurd h e; exact h, fun h => List.mem_cons_of_mem _ h⟩
theorem i64Of {c : Int} (h : (Lit.int .i64 c).wf = true) : I64 c := I64.of h
theorem wrapI64 (c : Int) : I64 (wrap64 c) := by unfold I64 wrap64; omega

set_option maxHeartbeats 1000000 in
/-- What dropUses does to whatever map; if the map holds how often numbers stand in a list, it holds that of the rest. -/
theorem dropUses_any (b q : Nat) (A : Option Addr) (n c : Nat) (zs : List Int) (D : DataW Unit) (w : World) (h : w.ownsMap Try.prog 3 (plainElem Try.prog 3) b q D) (hz : Has w A n zs) (hA : ∀ ad, A = some ad → ad.block ≠ b) (hn : n ≤ 65536) (hq : q ≤ 65536) (hI : ∀ k, k < n → I64 (zs.getD k 0)) :
    Calls Try.prog 156 #[.map (some b), .slice A n c] w fun e w' => ∃ D' : DataW Unit, e = .returned (.tuple #[]) ∧ w'.ownsMap Try.prog 3 (plainElem Try.prog 3) b (q + n) D' ∧ (∀ L : List Int, L.length ≤ 65536 → Means D (zs ++ L) → Means D' L) ∧ w.grownBy w' (some b) := by
  have HL := Lib.hid hz.1
  have HI := Lib.hid hI
  clear hI
  go_enter Try.func156, Try.ntmps156
  go_wp2_with fail
  go_loopw [8] (fun i wr => ∃ (k : Nat) (Dk : DataW Unit), k ≤ n ∧ i = .int .i64 k ∧ wr.ownsMap Try.prog 3 (plainElem Try.prog 3) b (q + k) Dk ∧ Hid (∀ L : List Int, L.length ≤ 65536 → Means D (zs ++ L) → Means Dk (zs.drop k ++ L)) ∧ w.grownBy wr (some b)) (fun i _ => n - (valInt i).toNat)
  case atStart => exact ⟨0, D, Nat.zero_le _, rfl, h, fun L _ h => h, World.grownBy.refl _ _⟩
  case round =>
    obtain ⟨k, Dk, hk, rfl, hM, HM, hG⟩ := hrel
    by_cases hlt : k < n
    · have hzr : Has wr A n zs := hz.keep hG.size fun ad e hlt' => hG.block _ hlt' (fun e' => hA ad e (by injection e'))
      obtain ⟨ad, z, rfl, hcz, HZ⟩ := hzr.elem hlt
      have k0 : (0 : Int) ≤ (k : Int) := by omega
      have k1 : (k : Int) < (n : Int) := by omega
      have hz64 : I64 z := by rw [HZ.out]; exact HI.out k hlt
      have hkey := keyOf_int_mk Try.underlying3 (i64Wf hz64)
      obtain ⟨v0, hrun0, hat0, hwc0⟩ := hM.lookup_int keyedInt Try.underlying142 Try.underlying3 (zeroInt _) hkey
      have HS : Hid (∀ L : List Int, L.length ≤ 65536 → Means D (zs ++ L) → Means Dk (z :: (zs.drop (k + 1) ++ L))) := fun L hL hm => by
        have := HM.out L hL hm
        rw [dropCons (by rw [HL.out]; exact hlt), ← HZ.out] at this
        exact this
      have HAT := Lib.hid hat0
      obtain ⟨t, ht⟩ : ∃ t, t = wrap64 (v0 - 1) := ⟨_, rfl⟩
      have ht64 : I64 t := by rw [ht]; exact wrapI64 _
      have HT := Lib.hid ht
      have hlz := HL.out
      have HD := Lib.hid hM.isMap
      obtain ⟨D1, hD1⟩ : ∃ D1, D1 = Dk.put (kI z) (vI t) := ⟨_, rfl⟩
      have at1 : D1.atKey (kI z) (vI 0) = vI t := by rw [hD1]; exact atKey_put_same HD.out (by trivial) _ _
      have HA1 := Lib.hid at1
      have HD1 := Lib.hid hD1
      clear hat0 ht at1 hwc0 hlz
      have x1 : wrap64 (v0 - 1) = t := HT.out.symm
      by_cases h0 : t = 0
      · have HZ0 := Lib.hid h0
        clear h0
        go_wp2_with (first
          | (at_lookup; refine wpList_lookup_own_int _ rfl _ _ 142 rfl 3 3 .i64 keyedInt Try.underlying142 Try.underlying3 (zeroInt _) b _ _ rfl hM1 _ (kI z) rfl hkey ?_; intro c2 hat2 _; have e2 : c2 = 0 := (vI_inj (HA1.out.symm.trans hat2)).symm.trans HZ0.out; clear hat2; rw [e2]; clear e2)
          | (at_mapUpdate; refine wpList_mapUpdate_own _ rfl _ _ _ 142 rfl 3 3 keyedInt Try.underlying142 _ b _ _ rfl hM (by unfold maxLen; omega) _ (Value.int .i64 t) (kI z) rfl (by show Value.int .i64 (wrap64 (v0 - 1)) = Value.int .i64 t; rw [x1]) hkey (vI t) [] (plainElem_int Try.underlying3 (i64Wf ht64)) ?_; intro w1 hM1 hG1; rw [← HD1.out] at hM1)
          | (at_delete; refine wpList_delete_own _ rfl _ _ 142 3 rfl 3 keyedInt Try.underlying142 _ b _ _ rfl hM1 _ (kI z) rfl hkey ?_; intro w2 hM2 hG2))
        go_roundw
        case rel => exact ⟨k + 1, _, by omega, by go_num, hM2.mono (by omega), fun L hL hm => by
          have h1 := HS.out L hL hm
          have hl : (zs.drop (k + 1) ++ L).length ≤ 16777216 := by rw [List.length_append, List.length_drop]; have := HL.out; omega
          have h2 := lessStep hl HAT.out h1
          rw [HD1.out]
          exact lessDrop h1 (by have := HT.out; have := HZ0.out; omega), (hG.trans hG1).trans hG2.grown⟩
        case measure => simp [valInt]; omega
      · have x2 : (t == 0) = false := by simp; omega
        have HZ0 := Lib.hid h0
        clear h0
        go_wp2_with (first
          | (at_lookup; refine wpList_lookup_own_int _ rfl _ _ 142 rfl 3 3 .i64 keyedInt Try.underlying142 Try.underlying3 (zeroInt _) b _ _ rfl hM1 _ (kI z) rfl hkey ?_; intro c2 hat2 _; have e2 : c2 = t := (vI_inj (HA1.out.symm.trans hat2)).symm; clear hat2; rw [e2]; clear e2)
          | (at_mapUpdate; refine wpList_mapUpdate_own _ rfl _ _ _ 142 rfl 3 3 keyedInt Try.underlying142 _ b _ _ rfl hM (by unfold maxLen; omega) _ (Value.int .i64 t) (kI z) rfl (by show Value.int .i64 (wrap64 (v0 - 1)) = Value.int .i64 t; rw [x1]) hkey (vI t) [] (plainElem_int Try.underlying3 (i64Wf ht64)) ?_; intro w1 hM1 hG1; rw [← HD1.out] at hM1))
        go_roundw
        case rel => exact ⟨k + 1, _, by omega, by go_num, hM1.mono (by omega), fun L hL hm => by
          have h1 := HS.out L hL hm
          have hl : (zs.drop (k + 1) ++ L).length ≤ 16777216 := by rw [List.length_append, List.length_drop]; have := HL.out; omega
          have h2 := lessStep hl HAT.out h1
          have h3 : t = _ := HT.out.trans h2
          rw [HD1.out, h3]
          exact lessKeep HD.out h1 (by have := HZ0.out; omega), hG.trans hG1⟩
        case measure => simp [valInt]; omega
    · obtain rfl : k = n := by omega
      go_wp2_with fail
      go_end0
      refine ⟨Dk, rfl, hM, fun L hL hm => ?_, hG⟩
      have := HM.out L hL hm
      rw [List.drop_of_length_le (by rw [HL.out]; exact Nat.le_refl _), List.nil_append] at this
      exact this
end Go.Proofs.Yteiibneaihdmbaa
