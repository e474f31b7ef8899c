/- Lists of lists of integers that the call owns and that grow; what the exact laws do with them. For at most 1000 rows of at most 1000 elements. -/
import Derived.Test.YteiibneaihdmbaaSo1
import Derived.Test.YteiibneaihdmbaaMat11
import Derived.Maps.AppendAt
namespace Go.Proofs.Yteiibneaihdmbaa
open Go Go.RowKit
set_option maxRecDepth 100000

abbrev RwS : Type := Option Addr × Nat × Nat
def rwV (r : RwS) : Value := .slice r.1 r.2.1 r.2.2
def rwVs (rs : Nat → RwS) (n : Nat) : List Value := (List.range n).map fun k => rwV (rs k)
theorem rwVs_length (rs : Nat → RwS) (n : Nat) : (rwVs rs n).length = n := by simp [rwVs]
theorem rwVs_at (rs : Nat → RwS) {n k : Nat} (h : k < n) : (rwVs rs n)[k]? = some (rwV (rs k)) := by simp [rwVs, h]
theorem rwVs_one (rs : Nat → RwS) (n : Nat) : ∀ u ∈ rwVs rs n, u.oneCell' = true := by
  intro u hu
  obtain ⟨k, _, rfl⟩ := List.mem_map.1 hu
  rfl
theorem rwVs_next (rs : Nat → RwS) (n : Nat) (r : RwS) : rwVs rs n ++ [rwV r] = rwVs (fun k => if k = n then r else rs k) (n + 1) := by
  unfold rwVs
  rw [List.range_succ, List.map_append, List.map_singleton]
  show _ = List.map (fun k => rwV (if k = n then r else rs k)) (List.range n) ++ [rwV (if n = n then r else rs n)]
  rw [if_pos rfl]
  congr 1
  exact List.map_congr_left fun k hk => by rw [if_neg (by have := List.mem_range.1 hk; omega)]
theorem rwVs_set (rs : Nat → RwS) (n k : Nat) (r : RwS) : (rwVs rs n).set k (rwV r) = rwVs (fun j => if j = k then r else rs j) n := by
  apply List.ext_getElem?
  intro j
  by_cases hj : j < n
  · by_cases e : j = k
    · subst e; rw [List.getElem?_set_self (by rw [rwVs_length]; exact hj), rwVs_at _ hj, if_pos rfl]
    · rw [List.getElem?_set_ne (by omega), rwVs_at _ hj, rwVs_at _ hj, if_neg e]
  · rw [List.getElem?_eq_none (by rw [List.length_set, rwVs_length]; omega), List.getElem?_eq_none (by rw [rwVs_length]; omega)]

/-- n rows of the call's own, from block B on, pairwise apart. -/
structure LayR (w : World) (B : Nat) (A : Option Addr) (n c : Nat) (rs : Nat → RwS) (M : Nat → List Int) : Prop where
  row : w.ownsRow B 23 1 (.slice A n c) n (rwVs rs n)
  own : ∀ k, k < n → Own w B (rs k).1 (rs k).2.1 (rs k).2.2 (M k)
  apart : ∀ i j, i < n → j < n → i ≠ j → ∀ a b : Addr, (rs i).1 = some a → (rs j).1 = some b → a.block ≠ b.block

section
variable {w w' : World} {A : Option Addr} {B B' n c k : Nat} {rs : Nat → RwS} {M M' : Nat → List Int}
/-- A row of integers and a row of rows never share a block. -/
theorem rowApart {R : Option Addr} {m cR : Nat} {zs : List Int} {xs : List Value} (h : w.ownsRow B 23 1 (.slice A n c) n xs) (h2 : Own w B' R m cR zs) : ∀ a b : Addr, A = some a → R = some b → a.block ≠ b.block := by
  rintro a b rfl rfl e
  rcases h.2 with ⟨hv, _⟩ | ⟨g, cap, cur, hv, _, hg, _⟩
  · cases hv
  · rcases h2.2.2 with ⟨hv2, _⟩ | ⟨g2, cap2, cur2, hv2, _, hg2, _⟩
    · cases hv2
    · injection hv with e1
      injection hv2 with e2
      injection e1 with e1
      injection e2 with e2
      rw [e1, e2] at e
      have e' : g = g2 := e
      subst e'
      rw [hg] at hg2
      injection hg2 with e3
      injection e3 with _ e4
      exact absurd e4 (by decide)
theorem keptRow {e size : Nat} {v : Value} {xs : List Value} (h : w.ownsRow B e size v n xs) {row : Option Nat} (hg : w.grownBy w' row) (hne : ∀ g, v.ownBlock = some g → some g ≠ row) : w'.ownsRow B e size v n xs := by
  refine h.kept hg ?_
  cases hv : v.ownBlock with
  | none => exact .inl rfl
  | some g => exact .inr (hne g hv)
theorem LayR.below (h : LayR w B A n c rs M) (hb : Below w.heap.size w w') : LayR w' B A n c rs M :=
  ⟨keptRow h.row (grownOf hb none) (fun _ _ => by simp), fun k hk => (h.own k hk).below hb, h.apart⟩
theorem LayR.mono (h : LayR w B A n c rs M) (hB : B' ≤ B) : LayR w B' A n c rs M := ⟨h.row.mono hB, fun k hk => (h.own k hk).mono hB, h.apart⟩
theorem LayR.nil_ (w : World) (B : Nat) (rs : Nat → RwS) (M : Nat → List Int) : LayR w B none 0 0 rs M := ⟨World.ownsRow_nil _ _ _ _, fun k hk => absurd hk (by omega), fun i j hi => absurd hi (by omega)⟩
theorem LayR.spot (h : LayR w B A n c rs M) (hn : 0 < n) : ∃ g, A = some ⟨g, 0, none⟩ := by
  obtain ⟨g, cap, hv, _⟩ := h.row.form hn
  injection hv with hA
  exact ⟨g, hA⟩
theorem LayR.cell {g : Nat} (h : LayR w B (some ⟨g, 0, none⟩) n c rs M) (hk : k < n) : w.cell? ⟨g, k, none⟩ = some (.slice (rs k).1 (rs k).2.1 (rs k).2.2) := by
  rw [h.row.cellAt k (by omega), rwVs_at _ hk]; rfl
theorem LayR.free {g : Nat} (h : LayR w B (some ⟨g, 0, none⟩) n c rs M) (k : Nat) : w.frozen? ⟨g, k, none⟩ = false := h.row.frozenAt k
theorem LayR.ext (h : LayR w B A n c rs M) (e : ∀ k, k < n → M k = M' k) : LayR w B A n c rs M' := ⟨h.row, fun k hk => by rw [← e k hk]; exact h.own k hk, h.apart⟩
theorem LayR.hasM (h : LayR w B A n c rs M) (hM : ∀ k, k < n → (M k).length ≤ 16777216) : HasM w A n M := fun hn => by
  obtain ⟨g, rfl⟩ := h.spot hn
  refine ⟨_, rfl, (h.row.lt g rfl).2, fun k hk => ⟨_, _, _, by rw [addNone]; exact h.cell hk, (h.own k hk).has, ?_, (h.own k hk).capLe, own_nilOk (h.own k hk)⟩⟩
  rw [← (h.own k hk).1]; exact hM k hk
/-- A block that is none of the rows' turned. -/
theorem LayR.kept (h : LayR w B A n c rs M) {row : Option Nat} (hg : w.grownBy w' row) (hA : ∀ a : Addr, A = some a → some a.block ≠ row) (hR : ∀ k, k < n → ∀ a : Addr, (rs k).1 = some a → some a.block ≠ row) : LayR w' B A n c rs M :=
  ⟨keptRow h.row hg (fun g e => by
      cases A with
      | none => simp [Value.ownBlock] at e
      | some a => simp [Value.ownBlock] at e; subst e; exact hA a rfl), fun k hk => (h.own k hk).kept hg (hR k hk), h.apart⟩
/-- An empty row more. -/
theorem LayR.add {A' : Option Addr} {c' : Nat} (h : LayR w B A n c rs M) (own : w'.ownsRow B 23 1 (.slice A' (n + 1) c') (n + 1) (rwVs rs n ++ [.slice none 0 0])) (hg : w.grownBy w' (blockOf A)) (hM : ∀ k, k < n → M k = M' k) (hn : M' n = []) :
    LayR w' B A' (n + 1) c' (fun k => if k = n then (none, 0, 0) else rs k) M' := by
  refine ⟨by rw [← rwVs_next]; exact own, fun k hk => ?_, fun i j hi hj hij a b ha hb => ?_⟩
  · by_cases e : k = n
    · subst e; rw [if_pos rfl, hn]; exact Own.nil_ _ _
    · rw [if_neg e, ← hM k (by omega)]
      refine (h.own k (by omega)).kept hg (fun ad e2 e3 => ?_)
      cases hA : A with
      | none => rw [hA] at e3; simp [blockOf] at e3
      | some a => rw [hA] at e3; simp [blockOf] at e3; exact rowApart h.row (h.own k (by omega)) a ad hA e2 e3.symm
  · by_cases ei : i = n
    · rw [if_pos ei] at ha; cases ha
    · by_cases ej : j = n
      · rw [if_pos ej] at hb; cases hb
      · rw [if_neg ei] at ha; rw [if_neg ej] at hb
        exact h.apart i j (by omega) (by omega) hij a b ha hb
/-- A row is another one now, in its old place or in a new one, and is stored. -/
theorem LayR.put {g m' cR' : Nat} {R' : Option Addr} {zs : List Int} (h : LayR w B (some ⟨g, 0, none⟩) n c rs M) (hk : k < n) (own : Own w' B R' m' cR' zs) (hg : w.grownBy w' (blockOf (rs k).1)) (hb : blockOf R' = blockOf (rs k).1 ∨ blockOf R' = some w.heap.size) :
    LayR (w'.setCell ⟨g, k, none⟩ (.slice R' m' cR')) B (some ⟨g, 0, none⟩) n c (fun j => if j = k then (R', m', cR') else rs j) (fun j => if j = k then zs else M j) := by
  have hgl : g < w.heap.size := (h.row.lt g rfl).2
  have h1 : w'.ownsRow B 23 1 (.slice (some ⟨g, 0, none⟩) n c) n (rwVs rs n) := keptRow h.row hg (fun x e e2 => by
    simp [Value.ownBlock] at e
    subst e
    cases hR : (rs k).1 with
    | none => rw [hR] at e2; simp [blockOf] at e2
    | some b => rw [hR] at e2; simp [blockOf] at e2; exact rowApart h.row (h.own k hk) _ b rfl hR e2)
  have g2 : w'.grownBy (w'.setCell ⟨g, k, none⟩ (.slice R' m' cR')) (some g) := grown_setCell (World.grownBy.refl _ _) _ _
  have hold : ∀ j, j < n → j ≠ k → ∀ a : Addr, (rs j).1 = some a → some a.block ≠ blockOf (rs k).1 := fun j hj hjk a ha e => by
    cases hR : (rs k).1 with
    | none => rw [hR] at e; simp [blockOf] at e
    | some b => rw [hR] at e; simp [blockOf] at e; exact h.apart j k hj hk hjk a b ha hR e
  refine ⟨?_, fun j hj => ?_, fun i j hi hj hij a b ha hb' => ?_⟩
  · have := (h1.stored k (.slice R' m' cR')).1
    rw [show (Value.slice R' m' cR') = rwV (R', m', cR') from rfl, rwVs_set] at this
    exact this
  · by_cases e : j = k
    · rw [if_pos e, if_pos e]
      exact own.kept g2 (fun ad e2 e3 => rowApart h1 own _ ad rfl e2 (by simpa using e3.symm))
    · rw [if_neg e, if_neg e]
      have o := (h.own j hj).kept hg (hold j hj e)
      exact o.kept g2 (fun ad e2 e3 => rowApart h1 o _ ad rfl e2 (by simpa using e3.symm))
  · have hnew : ∀ j, j < n → j ≠ k → ∀ a b : Addr, R' = some a → (rs j).1 = some b → a.block ≠ b.block := fun j hj hjk a b ha hb2 e => by
      rcases hb with hb | hb
      · exact hold j hj hjk b hb2 (by rw [← hb, ha]; simp [blockOf]; exact e.symm)
      · rw [ha] at hb
        simp [blockOf] at hb
        have := ((h.own j hj).born b hb2).2
        omega
    by_cases ei : i = k
    · rw [if_pos ei] at ha
      rw [if_neg (by omega)] at hb'
      exact hnew j hj (by omega) a b ha hb'
    · rw [if_neg ei] at ha
      by_cases ej : j = k
      · rw [if_pos ej] at hb'
        exact fun e => hnew i hi ei b a hb' ha e.symm
      · rw [if_neg ej] at hb'
        exact h.apart i j hi hj hij a b ha hb'
end

/-- append(row, z): what has turned, and where the row lies now. -/
theorem appendIntA {ops : Array Oper} {rest : List Oper} {o : Oper} {a : Act} {Q : Exit → Act → World → Prop} (w : World) (hgd : o.guard = none) (s x : Operand)
    (ho : o.op = .call { callee := .builtin .append, args := #[s, x], argTypes := #[23, 23] }) (z : Int) (B : Nat) (R : Option Addr) (n c : Nat) (ys : List Int) (hs : a.eval s = .slice R n c)
    (hx : a.eval x = .slice (some ⟨w.heap.size, 0, none⟩) 1 1) (hown : Own w B R n c ys) (hn : n ≤ 16777216) (hB : B ≤ w.heap.size)
    (h : ∀ R' c' w', Own w' B R' (n + 1) c' (ys ++ [z]) → Below B w w' → (w.alloc (.cells #[.int .i64 z] 3)).grownBy w' (blockOf R) → (blockOf R' = blockOf R ∨ blockOf R' = some (w.alloc (.cells #[.int .i64 z] 3)).heap.size) → wpList Try.prog ops Q rest (a.put o.dst (.slice R' (n + 1) c')) w') :
    wpList Try.prog ops Q (o :: rest) a (w.alloc (.cells #[.int .i64 z] 3)) := by
  obtain ⟨i0, hi, hz0, hz1, hz2⟩ := info_parts infoInt
  have hlt := hown.2.lt
  have b := belowNew w (.cells #[.int .i64 z] 3)
  have hbl : ∀ (R : Option Addr) (n c : Nat), (Value.slice R n c).ownBlock = blockOf R := fun R n c => by cases R <;> rfl
  refine wpList_append_own_at _ hgd s x _ ho B 3 i0 (.int .i64 0) 1 8 Try.underlying23 hi hz0 hz1 hz2 rfl (by decide) (.slice R n c) n (vals ys) hs (hown.2.alloc _) ⟨w.heap.size, 0, none⟩ 1 1 [.int .i64 z] hx rfl ?_ ?_ (by simp only [maxLen]; omega) (by omega) (by simp; omega) ?_
  · intro j u hj
    match j, hj with
    | 0, hj => simp at hj; subst hj; simp [Addr.add]
  · intro u hu; simp at hu; subst hu; rfl
  · intro v' w' h1 h2 _ h4
    have h1' : w'.ownsRow B 3 1 v' (n + 1) (vals (ys ++ [z])) := by rw [vals_append]; exact h1
    obtain ⟨R', c', rfl, ho'⟩ := ownOf h1'
    rw [hbl] at h2 h4
    rw [hbl] at h4
    exact h R' c' w' ho' ((((Below.refl B w).alloc hB _)).grown h2 (by simp; omega) (fun k hk => (hlt k (by rw [hbl]; exact hk)).1)) h2 h4

/-- append(rows, nil). -/
theorem appendNil {ops : Array Oper} {rest : List Oper} {o : Oper} {a : Act} {Q : Exit → Act → World → Prop} (w : World) (hgd : o.guard = none) (s x : Operand)
    (ho : o.op = .call { callee := .builtin .append, args := #[s, x], argTypes := #[53, 53] }) (B : Nat) (A : Option Addr) (n c : Nat) (rs : Nat → RwS) (M M' : Nat → List Int) (hs : a.eval s = .slice A n c)
    (hx : a.eval x = .slice (some ⟨w.heap.size, 0, none⟩) 1 1) (hown : LayR w B A n c rs M) (hn : n ≤ 1000) (hB : B ≤ w.heap.size) (hM : ∀ k, k < n → M k = M' k) (hMn : M' n = [])
    (h : ∀ A' c' w', LayR w' B A' (n + 1) c' (fun k => if k = n then (none, 0, 0) else rs k) M' → Below B w w' → (w.alloc (.cells #[.slice none 0 0] 23)).grownBy w' (blockOf A) → wpList Try.prog ops Q rest (a.put o.dst (.slice A' (n + 1) c')) w') :
    wpList Try.prog ops Q (o :: rest) a (w.alloc (.cells #[.slice none 0 0] 23)) := by
  obtain ⟨i0, hi, hz0, hz1, hz2⟩ := info_parts infoRow
  have b := belowNew w (.cells #[.slice none 0 0] 23)
  have hl := hown.below b
  have hlt := hl.row.lt
  have hbl : (Value.slice A n c).ownBlock = blockOf A := by cases A <;> rfl
  refine wpList_append_own _ hgd s x _ ho B 23 i0 (.slice none 0 0) 1 24 Try.underlying53 hi hz0 hz1 hz2 rfl (by decide) (.slice A n c) n (rwVs rs n) hs hl.row ⟨w.heap.size, 0, none⟩ 1 1 [.slice none 0 0] hx rfl ?_ ?_ (by simp only [maxLen]; omega) (by omega) (by simp; omega) ?_
  · intro j u hj
    match j, hj with
    | 0, hj => simp at hj; subst hj; simp [Addr.add]
  · intro u hu; simp at hu; subst hu; rfl
  · intro v' w' h1 h2 _
    obtain ⟨A', c', rfl⟩ := sliceOf h1
    rw [hbl] at h2
    exact h A' c' w' (hl.add h1 h2 hM hMn) ((((Below.refl B w).alloc hB _)).grown h2 (by simp; omega) (fun k hk => (hlt k (by rw [hbl]; exact hk)).1)) h2

/-! ## marks -/
/-- How many elements the first k rows have. -/
def totL (M : Nat → List Int) : Nat → Nat
  | 0 => 0
  | k + 1 => totL M k + (M k).length
def markM (M : Nat → List Int) (m : Int) (k : Nat) : List Int := marks (m + (totL M k : Int)) (M k).length
theorem totL_le {M : Nat → List Int} {n : Nat} (h : ∀ k, k < n → (M k).length ≤ 1000) : ∀ k, k ≤ n → totL M k ≤ 1000 * k
  | 0, _ => Nat.le_refl _
  | k + 1, hk => by have := totL_le h k (by omega); have := h k (by omega); rw [totL]; omega

set_option maxHeartbeats 1000000 in
theorem markLay_any (A : Option Addr) (n c : Nat) (rs : Nat → RwS) (M : Nat → List Int) (B : Nat) (m : Int) (w wx : World) (h : LayR w B A n c rs M) (hx : LayR wx B A n c rs M) (_hwx : wx.heap.size ≤ w.heap.size) (hn : n ≤ 1000) (hl : ∀ k, k < n → (M k).length ≤ 1000) (hm0 : 0 ≤ m) (hm1 : m ≤ 1000000) :
    Calls Try.prog 43 #[.slice A n c, .int .i64 m] w fun e w' => e = .returned (.int .i64 (m + (totL M n : Int))) ∧ LayR w' B A n c rs (markM M m) ∧ Span B wx.heap.size w w' := by
  have HL := Lib.hid hl
  have HX := Lib.hid hx
  clear hl hx
  go_enter Try.func43, Try.ntmps43
  go_wp2_with fail
  go_loopw [1, 5] (fun q i wr => ∃ k : Nat, k ≤ n ∧ i = .int .i64 k ∧ q = .int .i64 (m + (totL M k : Int)) ∧ LayR wr B A n c rs (fun j => if j < k then markM M m j else M j) ∧ Hid (Span B wx.heap.size w wr)) (fun _ i _ => n - (intOf i).toNat)
  case atStart => exact ⟨0, Nat.zero_le _, rfl, by simp [totL], h.ext (fun j _ => by rw [if_neg (by omega)]), Span.refl _ _ _⟩
  case round =>
    obtain ⟨k, hk, rfl, rfl, hr, HS⟩ := hrel
    by_cases hlt : k < n
    · obtain ⟨g, rfl⟩ := hr.spot (by omega)
      obtain ⟨R, p, d, hrk⟩ : ∃ R p d, rs k = (R, p, d) := ⟨_, _, _, rfl⟩
      have hc := hr.cell hlt
      have ho := hr.own k hlt
      rw [hrk] at hc ho
      simp only [if_neg (Nat.lt_irrefl k)] at ho
      have hpl : (M k).length = p := ho.1
      have hp : p ≤ 1000 := by rw [← hpl]; exact HL.out k hlt
      have ht := totL_le HL.out k (by omega)
      have k0 : (0 : Int) ≤ (k : Int) := by omega
      have k1 : (k : Int) < (n : Int) := by omega
      have HMk := Lib.hid (markIntS_any R B p d (m + (totL M k : Int)) (M k) wr ho (by omega) (by omega) (by omega))
      have HTS : Hid (m + (totL M k : Int) + (p : Int) = m + (totL M (k + 1) : Int)) := by show _ = _; rw [totL, hpl]; push_cast; omega
      have HR := Lib.hid hr
      have HRK := Lib.hid hrk
      have HPL := Lib.hid hpl
      have hxo := HX.out.own k hlt
      rw [hrk] at hxo
      have hxb : Hid (∀ a, R = some a → B ≤ a.block ∧ a.block < wx.heap.size) := fun a e => hxo.born a e
      clear hr ho hrk hpl hxo
      go_wp2_with fail
      refine (HMk.out).mono ?_
      rintro e w2 ⟨rfl, o2, g2⟩
      rw [HTS.out]
      have hr2 : LayR w2 B (some ⟨g, 0, none⟩) n c rs (fun j => if j < k + 1 then markM M m j else M j) := by
        refine ⟨keptRow HR.out.row g2 (fun x e e2 => ?_), fun j hj => ?_, HR.out.apart⟩
        · simp [Value.ownBlock] at e
          subst e
          cases hR : R with
          | none => rw [hR] at e2; simp [blockOf] at e2
          | some b =>
            rw [hR] at e2
            simp [blockOf] at e2
            have o := HR.out.own k hlt
            rw [HRK.out] at o
            exact rowApart HR.out.row o _ b rfl hR e2
        · by_cases e : j = k
          · subst e
            rw [HRK.out, if_pos (by omega), markM, HPL.out]
            exact o2
          · have o := (HR.out.own j hj).kept g2 (fun a ea e2 => by
              cases hR : R with
              | none => rw [hR] at e2; simp [blockOf] at e2
              | some b => rw [hR] at e2; simp [blockOf] at e2; exact HR.out.apart j k hj hlt e a b ea (by rw [HRK.out]; exact hR) e2)
            by_cases e2 : j < k
            · rw [if_pos e2] at o; rw [if_pos (by omega)]; exact o
            · rw [if_neg e2] at o; rw [if_neg (by omega)]; exact o
      have S2 : Span B wx.heap.size w w2 := HS.out.grown g2 (fun x e => by
        cases hR : R with
        | none => rw [hR] at e; simp [blockOf] at e
        | some b => rw [hR] at e; simp [blockOf] at e; have := hxb.out b hR; omega)
      have HR2 := Lib.hid hr2
      clear hr2 hc o2 g2
      go_wp2_with fail
      go_roundw
      case rel => exact ⟨k + 1, by omega, by go_num, rfl, HR2.out, S2⟩
      case measure => simp [intOf]; omega
    · obtain rfl : k = n := by omega
      go_wp2_with fail
      go_ret
      exact ⟨rfl, hr.ext (fun j hj => by rw [if_pos hj]), HS.out⟩

set_option maxHeartbeats 1000000 in
theorem heldLay_any (A : Option Addr) (n c : Nat) (M : Nat → List Int) (m : Int) (w : World) (h : HasM w A n (markM M m)) (hn : n ≤ 1000) (hl : ∀ k, k < n → (M k).length ≤ 1000) (hm0 : 0 ≤ m) (hm1 : m ≤ 1000000) :
    Calls Try.prog 44 #[.slice A n c, .int .i64 m] w fun e w' => e = .returned (.int .i64 (m + (totL M n : Int))) ∧ Below w.heap.size w w' := by
  have HL := Lib.hid hl
  clear hl
  go_enter Try.func44, Try.ntmps44
  go_wp2_with fail
  go_loopw [1, 5] (fun q i wr => ∃ k : Nat, k ≤ n ∧ i = .int .i64 k ∧ q = .int .i64 (m + (totL M k : Int)) ∧ Below w.heap.size w wr) (fun _ i _ => n - (intOf i).toNat)
  case atStart => exact ⟨0, Nat.zero_le _, rfl, by simp [totL], Below.refl _ _⟩
  case round =>
    obtain ⟨k, hk, rfl, rfl, bk⟩ := hrel
    by_cases hlt : k < n
    · obtain ⟨ad, R, p, d, rfl, hc, hR, hp, _⟩ := (h.below bk).elem hlt
      have hpl : (M k).length = p := by have := hR.1; rw [markM, marks_length] at this; exact this
      have hp' : p ≤ 1000 := by rw [← hpl]; exact HL.out k hlt
      have ht := totL_le HL.out k (by omega)
      have k0 : (0 : Int) ≤ (k : Int) := by omega
      have k1 : (k : Int) < (n : Int) := by omega
      have hR' : Has wr R p (marks (m + (totL M k : Int)) p) := by have := hR; rw [markM, hpl] at this; exact this
      have HMk := Lib.hid (heldIntS_any R p d (m + (totL M k : Int)) wr hR' (by omega) (by omega) (by omega))
      have HTS : Hid (m + (totL M k : Int) + (p : Int) = m + (totL M (k + 1) : Int)) := by show _ = _; rw [totL, hpl]; push_cast; omega
      have hpos : (0 : Int) ≤ m + (totL M (k + 1) : Int) := by omega
      clear hR hR' hpl
      go_wp2_with fail
      refine (HMk.out).mono ?_
      rintro e w2 ⟨rfl, b2⟩
      rw [HTS.out]
      have B2 := bk.trans (b2.mono bk.size)
      go_wp2_with fail
      go_roundw
      case rel => exact ⟨k + 1, by omega, by go_num, rfl, B2⟩
      case measure => simp [intOf]; omega
    · obtain rfl : k = n := by omega
      go_wp2_with fail
      go_ret
      exact ⟨rfl, bk⟩

end Go.Proofs.Yteiibneaihdmbaa
