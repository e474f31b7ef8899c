/- Several texts in one: LnM5, LnV1, LnV2, LnV3, LnV4. What each says stands at its head. -/
import Derived.Test.YtcbofogmfelpkaaDoorLnF2
import Derived.Deep.DeepCutAuto
import Derived.Deep.CutBlock
import Derived.BigQuiet
import Derived.Deep.QuietTactic

/- The values of a program's lines as mathematics, and that they fit their widths. No condition. -/
namespace Go.Proofs.YtcbofogmfelpkaaDoor
open Go Go.RowKit
set_option maxRecDepth 100000


/-- The value of an operation on two numbers; w: the width of the result where it is needed. -/
def opV (j : Nat) (w a b : Int) : Int :=
  if j = 0 then (a + b) % 2 ^ w.toNat
  else if j = 1 then (a - b) % 2 ^ w.toNat
  else if j = 2 then a * b
  else if j = 3 then (if a < b then 1 else 0)
  else if j = 4 then (if a = b then 1 else 0)
  else if j = 5 then bits .and .i64 a b
  else if j = 6 then bits .or .i64 a b
  else bits .xor .i64 a b
/-- The value of a line that is no input: w its width, v the values of its parts. -/
def lnV (kd : Int) (o : ByteArray) (vl w : Int) (v : List Int) : Int :=
  if kd = 2 then vl
  else if kd = 3 then opV (opIx o) w (v.getD 0 0) (v.getD 1 0)
  else if kd = 4 then 2 ^ w.toNat - 1 - v.getD 0 0
  else if kd = 5 then (if v.getD 0 0 = 1 then v.getD 1 0 else v.getD 2 0)
  else v.getD 0 0
/-- How many inputs of a party there are among lines. -/
def cntIn (p : Int) (ls : List Ln) : Nat := (inputsOf p ls).length
/-- The value of a line behind others with values vs. -/
def valL (pre : List Ln) (vs a b : List Int) (w : Int) (x : Ln) : Int :=
  if x.kind = 1 then (if x.party = 0 then a.getD (cntIn 0 pre) 0 else b.getD (cntIn 1 pre) 0) else lnV x.kind x.op x.value w (partWs pre vs x.parts)
def valsTo (ls : List Ln) (a b : List Int) : Nat → List Int
  | 0 => []
  | k + 1 => valsTo ls a b k ++ [valL (ls.take k) (valsTo ls a b k) a b ((widths ls).getD k 0) (lnAt ls k)]
def vals5 (ls : List Ln) (a b : List Int) : List Int := valsTo ls a b ls.length
def fitB (ws zs : List Int) : Bool := decide (ws.length = zs.length) && (List.range ws.length).all fun i => decide (0 ≤ zs.getD i 0) && decide (zs.getD i 0 < 2 ^ (ws.getD i 0).toNat)
def askedP (ls : List Ln) (a b : List Int) : Bool := goodP ls && (fitB (inputsOf 0 ls) a && fitB (inputsOf 1 ls) b)
def m_ValuesIn (ls : List Ln) (a b : List Int) : List Int × Bool := if askedP ls a b = true then (vals5 ls a b, true) else ([], false)
def m_RunProgram (ls : List Ln) (a b : List Int) : List Int × Bool := if askedP ls a b = true then (outsOf ls (vals5 ls a b), true) else ([], false)

theorem valsTo_length (ls : List Ln) (a b : List Int) : ∀ k, (valsTo ls a b k).length = k
  | 0 => rfl
  | k + 1 => by simp [valsTo, valsTo_length ls a b k]
theorem valsTo_at (ls : List Ln) (a b : List Int) : ∀ k j, j < k → (valsTo ls a b k).getD j 0 = (valsTo ls a b (j + 1)).getD j 0
  | 0, j, h => absurd h (by omega)
  | k + 1, j, h => by
    by_cases e : j = k
    · rw [e]
    · rw [← valsTo_at ls a b k j (by omega), valsTo, List.getD_eq_getElem?_getD, List.getElem?_append, if_pos (by rw [valsTo_length]; omega), ← List.getD_eq_getElem?_getD]
theorem valsTo_new (ls : List Ln) (a b : List Int) (k : Nat) : (valsTo ls a b (k + 1)).getD k 0 = valL (ls.take k) (valsTo ls a b k) a b ((widths ls).getD k 0) (lnAt ls k) := by
  rw [valsTo, List.getD_eq_getElem?_getD, List.getElem?_append_right (by rw [valsTo_length]; exact Nat.le_refl _), valsTo_length]
  simp
theorem vals5_at (ls : List Ln) (a b : List Int) {k : Nat} (hk : k < ls.length) : (vals5 ls a b).getD k 0 = valL (ls.take k) (valsTo ls a b k) a b ((widths ls).getD k 0) (lnAt ls k) := by
  rw [vals5, valsTo_at ls a b _ k hk, valsTo_new]
theorem vals5_before (ls : List Ln) (a b : List Int) {k j : Nat} (hj : j < k) (hk : k ≤ ls.length) : (valsTo ls a b k).getD j 0 = (vals5 ls a b).getD j 0 := by
  rw [valsTo_at ls a b k j hj, vals5, valsTo_at ls a b ls.length j (by omega)]

/-! ## bit by bit -/
theorem two64 : (2 : Nat) ^ 64 = 18446744073709551616 := by decide
theorem wrapNat {m : Nat} (h : m < 1048576) : IntKind.i64.wrap (m : Int) = (m : Int) := wrapIn (by omega) (by omega)
theorem ofNat64 {m : Nat} (h : m < 1048576) : (BitVec.ofInt 64 (m : Int)).toNat = m := by
  rw [BitVec.toNat_ofInt]
  have e : ((m : Int) % ((2 ^ 64 : Nat) : Int)) = (m : Int) := Int.emod_eq_of_lt (by omega) (by rw [two64]; omega)
  rw [e]; rfl
theorem bitsAnd {a b : Nat} (ha : a < 1048576) (hb : b < 1048576) : bits .and .i64 (a : Int) (b : Int) = ((a &&& b : Nat) : Int) := by
  show IntKind.i64.wrap ((BitVec.ofInt 64 (a : Int) &&& BitVec.ofInt 64 (b : Int)).toNat : Int) = _
  rw [BitVec.toNat_and, ofNat64 ha, ofNat64 hb]
  exact wrapNat (Nat.lt_of_le_of_lt Nat.and_le_left ha)
theorem bitsOr {a b : Nat} (ha : a < 1048576) (hb : b < 1048576) : bits .or .i64 (a : Int) (b : Int) = ((a ||| b : Nat) : Int) := by
  show IntKind.i64.wrap ((BitVec.ofInt 64 (a : Int) ||| BitVec.ofInt 64 (b : Int)).toNat : Int) = _
  rw [BitVec.toNat_or, ofNat64 ha, ofNat64 hb]
  exact wrapNat (Nat.or_lt_two_pow (n := 20) ha hb)
theorem bitsXor {a b : Nat} (ha : a < 1048576) (hb : b < 1048576) : bits .xor .i64 (a : Int) (b : Int) = ((a ^^^ b : Nat) : Int) := by
  show IntKind.i64.wrap ((BitVec.ofInt 64 (a : Int) ^^^ BitVec.ofInt 64 (b : Int)).toNat : Int) = _
  rw [BitVec.toNat_xor, ofNat64 ha, ofNat64 hb]
  exact wrapNat (Nat.xor_lt_two_pow (n := 20) ha hb)
theorem pow2_pos (n : Nat) : (0 : Int) < 2 ^ n := Int.pow_pos (by omega)
theorem pow2_le {n m : Nat} (h : n ≤ m) : (2 : Int) ^ n ≤ 2 ^ m := by
  have := Nat.pow_le_pow_right (n := 2) (by omega) h
  exact_mod_cast this
theorem pow2_ten {n : Nat} (h : n ≤ 10) : (2 : Int) ^ n ≤ 1024 := by have := pow2_le h; simpa using this
/-- The result of an operation fits. -/
theorem opV_range {j : Nat} {w wr a b : Int} (hj : j < 8) (hw : 1 ≤ w ∧ w ≤ 10) (hwr : wr = opW (j : Int) w) (hr1 : 1 ≤ wr ∧ wr ≤ 10) (ha : 0 ≤ a ∧ a < 2 ^ w.toNat) (hb : 0 ≤ b ∧ b < 2 ^ w.toNat) : 0 ≤ opV j wr a b ∧ opV j wr a b < 2 ^ wr.toNat := by
  have p1 := pow2_pos wr.toNat
  have pw := pow2_ten (n := w.toNat) (by omega)
  have hwr2 : 2 ≤ (2 : Int) ^ wr.toNat := by have := pow2_le (n := 1) (m := wr.toNat) (by omega); simpa using this
  unfold opV
  split
  · exact ⟨Int.emod_nonneg _ (by omega), Int.emod_lt_of_pos _ p1⟩
  · split
    · exact ⟨Int.emod_nonneg _ (by omega), Int.emod_lt_of_pos _ p1⟩
    · split
      · rename_i e
        subst e
        have e2 : wr = 2 * w := by
          have h1 := hwr
          rw [opW, if_pos (by rfl)] at h1
          split at h1 <;> omega
        have e3 : (2 : Int) ^ wr.toNat = 2 ^ w.toNat * 2 ^ w.toNat := by rw [e2, show (2 * w).toNat = w.toNat + w.toNat by omega, Int.pow_add]
        refine ⟨Int.mul_nonneg ha.1 hb.1, ?_⟩
        rw [e3]
        have q0 := pow2_pos w.toNat
        have q1 : a * b ≤ a * 2 ^ w.toNat := Int.mul_le_mul_of_nonneg_left (by omega) ha.1
        have q2 : a * 2 ^ w.toNat < 2 ^ w.toNat * 2 ^ w.toNat := Int.mul_lt_mul_of_pos_right ha.2 q0
        omega
      · split
        · split <;> omega
        · split
          · split <;> omega
          · have hw2 : wr = w := by
              rw [hwr, opW, if_neg (by omega), if_neg (by omega)]
            subst hw2
            obtain ⟨x, rfl⟩ : ∃ x : Nat, a = (x : Int) := ⟨a.toNat, by omega⟩
            obtain ⟨y, rfl⟩ : ∃ y : Nat, b = (y : Int) := ⟨b.toNat, by omega⟩
            have hx : x < 2 ^ wr.toNat := by exact_mod_cast ha.2
            have hy : y < 2 ^ wr.toNat := by exact_mod_cast hb.2
            have hx2 : x < 1048576 := by omega
            have hy2 : y < 1048576 := by omega
            split
            · rw [bitsAnd hx2 hy2]
              exact ⟨by omega, by exact_mod_cast Nat.lt_of_le_of_lt Nat.and_le_left hx⟩
            · split
              · rw [bitsOr hx2 hy2]
                exact ⟨by omega, by exact_mod_cast Nat.or_lt_two_pow hx hy⟩
              · rw [bitsXor hx2 hy2]
                exact ⟨by omega, by exact_mod_cast Nat.xor_lt_two_pow hx hy⟩

/-! ## what a line's parts are -/
theorem inputs_at {p : Int} {ls : List Ln} {k : Nat} (hk : k < ls.length) (h : (lnAt ls k).kind = 1 ∧ (lnAt ls k).party = p) : cntIn p (ls.take k) < (inputsOf p ls).length ∧ (inputsOf p ls).getD (cntIn p (ls.take k)) 0 = (lnAt ls k).width := by
  have e : inputsOf p ls = inputsOf p (ls.take (k + 1)) ++ inputsOf p (ls.drop (k + 1)) := by
    rw [inputsOf, inputsOf, inputsOf, ← List.map_append, ← List.filter_append, List.take_append_drop]
  rw [inputsOf_step p ls k hk, if_pos h] at e
  rw [e]
  simp [cntIn]
theorem cntIn_next (p : Int) (ls : List Ln) (k : Nat) (hk : k < ls.length) : cntIn p (ls.take (k + 1)) = cntIn p (ls.take k) + (if (lnAt ls k).kind = 1 ∧ (lnAt ls k).party = p then 1 else 0) := by
  rw [cntIn, inputsOf_step p ls k hk, List.length_append, cntIn]
  split <;> rfl
theorem part_at {ls : List Ln} {k i : Nat} (hnm : namesGiven ls = true) (hk : k < ls.length) (hi : i < (lnAt ls k).parts.length) :
    ∃ j, j < k ∧ findL ls (wordAt (lnAt ls k).parts i) = (j : Int) ∧ findL (ls.take k) (wordAt (lnAt ls k).parts i) = (j : Int) ∧ ∀ ws : List Int, (partWs (ls.take k) ws (lnAt ls k).parts).getD i 0 = ws.getD j 0 := by
  have h1 := (names_at hnm hk).2
  rw [List.all_eq_true] at h1
  have e : wordAt (lnAt ls k).parts i = (lnAt ls k).parts[i] := by simp [wordAt, List.getD_eq_getElem?_getD, List.getElem?_eq_getElem hi]
  have hg : givenB (ls.take k) (wordAt (lnAt ls k).parts i) = true := by rw [e]; exact h1 _ (List.getElem_mem _)
  have h2 := findL_place hg
  rw [List.length_take] at h2
  have h3 : findL ls (wordAt (lnAt ls k).parts i) = findL (ls.take k) (wordAt (lnAt ls k).parts i) := by
    have := findL_append (ls.drop k) hg
    rwa [List.take_append_drop] at this
  refine ⟨(findL (ls.take k) (wordAt (lnAt ls k).parts i)).toNat, by omega, by rw [h3]; omega, by omega, fun ws => ?_⟩
  simp [partWs, List.getD_eq_getElem?_getD, List.getElem?_eq_getElem hi, wordAt]
theorem width_at {ls : List Ln} (hg : goodP ls = true) {k : Nat} (hk : k < ls.length) : (widths ls).getD k 0 = pWidth (lnAt ls k).kind (lnAt ls k).width (lnAt ls k).op (partWs (ls.take k) (progTo ls k) (lnAt ls k).parts) ∧ 1 ≤ (widths ls).getD k 0 ∧ (widths ls).getD k 0 ≤ 10 := by
  obtain ⟨_, h1, h2, h3, h4, _⟩ := good_parts hg
  refine ⟨by rw [← h3]; exact progTo_new ls hk, allIn_yes h4 k (by rw [widths, widthsTo_length]; exact hk)⟩
theorem progTo_w {ls : List Ln} (hg : goodP ls = true) {k j : Nat} (hj : j < k) (hk : k ≤ ls.length) : (progTo ls k).getD j 0 = (widths ls).getD j 0 := by
  rw [progTo_all hj hk, (good_parts hg).2.2.2.1]
theorem kind_ok {x : Ln} (h : lineOk x = true) : x.kind = 1 ∨ x.kind = 2 ∨ x.kind = 3 ∨ x.kind = 4 ∨ x.kind = 5 ∨ x.kind = 6 := by
  rw [lineOk, Bool.and_eq_true, decide_eq_true_eq] at h
  obtain ⟨⟨⟨l1, l2⟩, l3⟩, hk⟩ := h
  have h0 : x.kind ≠ 0 := fun e => by rw [e, kindOk, if_neg (by omega), if_neg (by omega), if_neg (by omega), if_neg (by omega), if_neg (by omega)] at hk; cases hk
  omega
theorem parts_ok5 {x : Ln} (h : lineOk x = true) : (x.parts.length : Int) = partsK x.kind := by
  rw [lineOk, Bool.and_eq_true, decide_eq_true_eq] at h
  exact h.1.2
theorem fit_at {ws zs : List Int} (h : fitB ws zs = true) {i : Nat} (hi : i < ws.length) : ws.length = zs.length ∧ 0 ≤ zs.getD i 0 ∧ zs.getD i 0 < 2 ^ (ws.getD i 0).toNat := by
  rw [fitB, Bool.and_eq_true, decide_eq_true_eq, List.all_eq_true] at h
  have h1 := h.2 i (List.mem_range.2 hi)
  rw [Bool.and_eq_true, decide_eq_true_eq, decide_eq_true_eq] at h1
  exact ⟨h.1, h1⟩
theorem asked_yes {ls : List Ln} {a b : List Int} (h : askedP ls a b = true) : goodP ls = true ∧ fitB (inputsOf 0 ls) a = true ∧ fitB (inputsOf 1 ls) b = true := by
  rw [askedP, Bool.and_eq_true, Bool.and_eq_true] at h
  exact h

/-- Of a good line the value fits its width if those before do. -/
theorem val_ok {ls : List Ln} {a b : List Int} (h : askedP ls a b = true) {k : Nat} (hk : k < ls.length)
    (ih : ∀ j, j < k → 0 ≤ (valsTo ls a b k).getD j 0 ∧ (valsTo ls a b k).getD j 0 < 2 ^ ((widths ls).getD j 0).toNat) :
    0 ≤ valL (ls.take k) (valsTo ls a b k) a b ((widths ls).getD k 0) (lnAt ls k) ∧ valL (ls.take k) (valsTo ls a b k) a b ((widths ls).getD k 0) (lnAt ls k) < 2 ^ ((widths ls).getD k 0).toNat := by
  obtain ⟨hg, h0, h1⟩ := asked_yes h
  obtain ⟨hw, hw1, hw2⟩ := width_at hg hk
  obtain ⟨_, hls, hnm, _⟩ := good_parts hg
  have hx := line_good hls hk
  have hp := parts_ok5 hx
  have hpart : ∀ i, i < (lnAt ls k).parts.length → ∃ u v : Int, (partWs (ls.take k) (progTo ls k) (lnAt ls k).parts).getD i 0 = u ∧ (partWs (ls.take k) (valsTo ls a b k) (lnAt ls k).parts).getD i 0 = v ∧ (1 ≤ u ∧ u ≤ 10) ∧ 0 ≤ v ∧ v < 2 ^ u.toNat := fun i hi => by
    obtain ⟨j, hj, _, _, hws⟩ := part_at hnm hk hi
    obtain ⟨_, w1, w2⟩ := width_at hg (k := j) (by omega)
    refine ⟨(widths ls).getD j 0, (valsTo ls a b k).getD j 0, ?_, hws _, ⟨w1, w2⟩, ih j hj⟩
    rw [hws, progTo_w hg hj (by omega)]
  rw [valL]
  rcases kind_ok hx with e | e | e | e | e | e
  · rw [if_pos e]
    have hwd : (widths ls).getD k 0 = (lnAt ls k).width := by rw [hw, pWidth, if_pos (.inl e)]
    have hpy : (lnAt ls k).party = 0 ∨ (lnAt ls k).party = 1 := by
      rw [lineOk, Bool.and_eq_true] at hx
      have h2 := hx.2
      rw [kindOk, if_pos e] at h2
      simp only [Bool.and_eq_true, decide_eq_true_eq] at h2
      omega
    rcases hpy with e2 | e2
    · obtain ⟨i1, i2⟩ := inputs_at hk ⟨e, e2⟩
      rw [if_pos e2, hwd, ← i2]
      exact (fit_at h0 i1).2
    · obtain ⟨i1, i2⟩ := inputs_at hk ⟨e, e2⟩
      rw [if_neg (by omega), hwd, ← i2]
      exact (fit_at h1 i1).2
  · rw [if_neg (by omega), lnV, if_pos e]
    have hwd : (widths ls).getD k 0 = (lnAt ls k).width := by rw [hw, pWidth, if_pos (.inr e)]
    rw [lineOk, Bool.and_eq_true] at hx
    have h2 := hx.2
    rw [kindOk, if_neg (by omega), if_pos e] at h2
    simp only [Bool.and_eq_true, decide_eq_true_eq] at h2
    rw [hwd]
    exact ⟨h2.2.2.2.2.1, h2.2.2.2.2.2⟩
  · have hl : (lnAt ls k).parts.length = 2 := by rw [e] at hp; simp [partsK] at hp; omega
    obtain ⟨u0, v0, a0, b0, c0, d0⟩ := hpart 0 (by omega)
    obtain ⟨u1, v1, a1, b1, c1, d1⟩ := hpart 1 (by omega)
    have h8 := lineOk_op hx e
    rw [pWidth, if_neg (by omega), if_pos e, a0, a1] at hw
    split at hw
    · rename_i e3
      subst e3
      rw [if_neg (by omega), lnV, if_neg (by omega), if_pos e, b0, b1]
      exact opV_range h8 c0 hw ⟨hw1, hw2⟩ d0 d1
    · omega
  · have hl : (lnAt ls k).parts.length = 1 := by rw [e] at hp; simp [partsK] at hp; omega
    obtain ⟨u0, v0, a0, b0, c0, d0⟩ := hpart 0 (by omega)
    rw [pWidth, if_neg (by omega), if_neg (by omega), if_neg (by omega), a0] at hw
    rw [if_neg (by omega), lnV, if_neg (by omega), if_neg (by omega), if_pos e, b0, hw]
    omega
  · have hl : (lnAt ls k).parts.length = 3 := by rw [e] at hp; simp [partsK] at hp; omega
    obtain ⟨u0, v0, a0, b0, c0, d0⟩ := hpart 0 (by omega)
    obtain ⟨u1, v1, a1, b1, c1, d1⟩ := hpart 1 (by omega)
    obtain ⟨u2, v2, a2, b2, c2, d2⟩ := hpart 2 (by omega)
    rw [pWidth, if_neg (by omega), if_neg (by omega), if_pos e, a0, a1, a2] at hw
    split at hw
    · rename_i e3
      obtain ⟨e4, e5⟩ := e3
      rw [if_neg (by omega), lnV, if_neg (by omega), if_neg (by omega), if_neg (by omega), if_pos e, b0, b1, b2, hw]
      split
      · exact d1
      · rw [e5]; exact d2
    · omega
  · have hl : (lnAt ls k).parts.length = 1 := by rw [e] at hp; simp [partsK] at hp; omega
    obtain ⟨u0, v0, a0, b0, c0, d0⟩ := hpart 0 (by omega)
    rw [pWidth, if_neg (by omega), if_neg (by omega), if_neg (by omega), a0] at hw
    rw [if_neg (by omega), lnV, if_neg (by omega), if_neg (by omega), if_neg (by omega), if_neg (by omega), b0, hw]
    exact d0
theorem opV_w {j : Nat} {w u a b : Int} (h : j = 0 ∨ j = 1 → w = u) : opV j w a b = opV j u a b := by
  unfold opV
  by_cases h0 : j = 0
  · rw [if_pos h0, if_pos h0, h (.inl h0)]
  · rw [if_neg h0, if_neg h0]
    by_cases h1 : j = 1
    · rw [if_pos h1, if_pos h1, h (.inr h1)]
    · rw [if_neg h1, if_neg h1]
theorem vals_range {ls : List Ln} {a b : List Int} (h : askedP ls a b = true) : ∀ k, k ≤ ls.length → ∀ j, j < k → 0 ≤ (valsTo ls a b k).getD j 0 ∧ (valsTo ls a b k).getD j 0 < 2 ^ ((widths ls).getD j 0).toNat
  | 0, _, j, hj => absurd hj (Nat.not_lt_zero _)
  | k + 1, hk, j, hj => by
    have ih := vals_range h k (by omega)
    by_cases e : j < k
    · rw [valsTo_at ls a b (k + 1) j hj, ← valsTo_at ls a b k j e]
      exact ih j e
    · obtain rfl : j = k := by omega
      rw [valsTo_new]
      exact val_ok h (by omega) ih
/-- Width and value of a part. -/
theorem part_vals {ls : List Ln} {a b : List Int} (h : askedP ls a b = true) {k i : Nat} (hk : k < ls.length) (hi : i < (lnAt ls k).parts.length) :
    ∃ (u : Nat) (v : Int), (partWs (ls.take k) (progTo ls k) (lnAt ls k).parts).getD i 0 = (u : Int) ∧ (partWs (ls.take k) (widths ls) (lnAt ls k).parts).getD i 0 = (u : Int) ∧ (partWs (ls.take k) (valsTo ls a b k) (lnAt ls k).parts).getD i 0 = v ∧ (1 ≤ u ∧ u ≤ 10) ∧ 0 ≤ v ∧ v < 2 ^ u := by
  have hg := (asked_yes h).1
  obtain ⟨j, hj, _, _, hws⟩ := part_at (good_parts hg).2.2.1 hk hi
  obtain ⟨_, w1, w2⟩ := width_at hg (k := j) (by omega)
  have h1 := vals_range h k (by omega) j hj
  refine ⟨((widths ls).getD j 0).toNat, (valsTo ls a b k).getD j 0, ?_, ?_, hws _, by omega, h1⟩
  · rw [hws, progTo_w hg hj (by omega)]; omega
  · rw [hws]; omega
theorem valL_2 (pre : List Ln) (vs a b : List Int) (w : Int) (nm o : ByteArray) (ps : List ByteArray) (py wd vl : Int) : valL pre vs a b w ⟨2, nm, o, ps, py, wd, vl⟩ = vl := by simp [valL, lnV]
theorem valL_3 (pre : List Ln) (vs a b : List Int) (w : Int) (nm o : ByteArray) (ps : List ByteArray) (py wd vl : Int) : valL pre vs a b w ⟨3, nm, o, ps, py, wd, vl⟩ = opV (opIx o) w ((partWs pre vs ps).getD 0 0) ((partWs pre vs ps).getD 1 0) := by simp [valL, lnV]
theorem valL_4 (pre : List Ln) (vs a b : List Int) (w : Int) (nm o : ByteArray) (ps : List ByteArray) (py wd vl : Int) : valL pre vs a b w ⟨4, nm, o, ps, py, wd, vl⟩ = 2 ^ w.toNat - 1 - (partWs pre vs ps).getD 0 0 := by simp [valL, lnV]
theorem valL_5 (pre : List Ln) (vs a b : List Int) (w : Int) (nm o : ByteArray) (ps : List ByteArray) (py wd vl : Int) : valL pre vs a b w ⟨5, nm, o, ps, py, wd, vl⟩ = if (partWs pre vs ps).getD 0 0 = 1 then (partWs pre vs ps).getD 1 0 else (partWs pre vs ps).getD 2 0 := by simp [valL, lnV]
theorem valL_6 (pre : List Ln) (vs a b : List Int) (w : Int) (nm o : ByteArray) (ps : List ByteArray) (py wd vl : Int) : valL pre vs a b w ⟨6, nm, o, ps, py, wd, vl⟩ = (partWs pre vs ps).getD 0 0 := by simp [valL, lnV]

end Go.Proofs.YtcbofogmfelpkaaDoor

/- The model's test of inputs and its operations on numbers. For lists of at most 1048576 numbers. -/
namespace Go.Proofs.YtcbofogmfelpkaaDoor
open Go Go.RowKit
set_option maxRecDepth 100000


theorem pow2_10 : ∀ p : Nat, p ≤ 10 → (1 : Int) ≤ 2 ^ p ∧ (2 : Int) ^ p ≤ 1024 := by decide
theorem fit_no {ws zs : List Int} {k : Nat} (hk : k < ws.length) (h : (decide (0 ≤ zs.getD k 0) && decide (zs.getD k 0 < 2 ^ (ws.getD k 0).toNat)) = false) : fitB ws zs = false := by
  rw [fitB, Bool.and_eq_false_iff]
  right
  rw [List.all_eq_false]
  exact ⟨k, List.mem_range.2 hk, by rw [h]; simp⟩
theorem fit_yes {ws zs : List Int} (hl : ws.length = zs.length) (h : ∀ k, k < ws.length → (decide (0 ≤ zs.getD k 0) && decide (zs.getD k 0 < 2 ^ (ws.getD k 0).toNat)) = true) : fitB ws zs = true := by
  rw [fitB, decide_eq_true hl, Bool.true_and, List.all_eq_true]
  exact fun k hk => h k (List.mem_range.1 hk)
theorem fit_len {ws zs : List Int} (h : ws.length ≠ zs.length) : fitB ws zs = false := by rw [fitB, decide_eq_false h]; rfl

set_option maxRecDepth 100000 in
set_option maxHeartbeats 2000000 in
theorem laFit_any (U : Option Addr) (n c : Nat) (ws : List Int) (A : Option Addr) (m d : Nat) (zs : List Int) (b : Bool) (w : World) (hU : Has w U n ws) (hA : Has w A m zs) (hn : n ≤ 1048576) (hm : m ≤ 1048576) (hw : ∀ k, k < n → 0 ≤ ws.getD k 0 ∧ ws.getD k 0 ≤ 10) (hb : fitB ws zs = b) :
    Calls Tryd.prog 92 #[.slice U n c, .slice A m d] w fun e w' => e = .returned (.bool b) ∧ w = w' := by
  have HU := Lib.hid hU
  have HA := Lib.hid hA
  have HLU : Hid (ws.length = n) := hU.1
  have HLA : Hid (zs.length = m) := hA.1
  have HW := Lib.hid hw
  have HB := Lib.hid hb
  have HPow := Lib.hid pow2_10
  clear hU hA hw hb
  by_cases hnm : n = m
  · subst hnm
    go_enter Tryd.func92, Tryd.ntmps92
    go_wp2_with fail
    go_loop [14] (fun i => ∃ k : Nat, k ≤ n ∧ i = .int .i64 k ∧ Hid (∀ j, j < k → (decide (0 ≤ zs.getD j 0) && decide (zs.getD j 0 < 2 ^ (ws.getD j 0).toNat)) = true)) (fun i => n - (intOf i).toNat)
    case atStart => exact ⟨0, Nat.zero_le _, rfl, fun j hj => absurd hj (Nat.not_lt_zero _)⟩
    case round =>
      obtain ⟨k, hk, rfl, HN⟩ := hrel
      by_cases hlt : k < n
      · obtain ⟨ad, u, rfl, hcu, HEu⟩ := HU.out.elem hlt
        obtain ⟨ad2, z, rfl, hcz, HEz⟩ := HA.out.elem hlt
        have hw := HW.out k hlt
        rw [← HEu.out] at hw
        obtain ⟨p, rfl⟩ : ∃ p : Nat, u = (p : Int) := ⟨u.toNat, by omega⟩
        have p2 := HPow.out p (by omega)
        obtain ⟨bv, hbv⟩ : ∃ b, (decide (0 ≤ z) && decide (z ≤ 2 ^ p - 1)) = b := ⟨_, rfl⟩
        have I2 := Lib.hid (l1In_any z 0 (2 ^ p - 1) bv w hbv)
        have HBv : Hid ((decide (0 ≤ zs.getD k 0) && decide (zs.getD k 0 < 2 ^ (ws.getD k 0).toNat)) = bv) := by
          show _ = _
          rw [← HEu.out, ← HEz.out, ← hbv, Int.toNat_natCast]
          congr 1
          exact decide_eq_decide.2 (by omega)
        have k0 : (0 : Int) ≤ (k : Int) := by omega
        have k1 : (k : Int) < (n : Int) := by omega
        obtain ⟨p21, p22⟩ := p2
        have p10 : p ≤ 10 := by omega
        clear hbv hw
        cases bv with
        | false =>
          have HF : Hid (b = false) := by show _ = _; rw [← HB.out]; exact fit_no (by rw [HLU.out]; exact hlt) HBv.out
          go_wp2_with fail
          refine (I2.out).mono ?_
          rintro e w' ⟨rfl, rfl⟩
          go_wp2_with fail
          go_ret
          exact ⟨retBl HF.out.symm, rfl⟩
        | true =>
          have HN2 : Hid (∀ j, j < k + 1 → (decide (0 ≤ zs.getD j 0) && decide (zs.getD j 0 < 2 ^ (ws.getD j 0).toNat)) = true) := fun j hj => by
            by_cases e : j = k
            · rw [e]; exact HBv.out
            · exact HN.out j (by omega)
          go_wp2_with fail
          refine (I2.out).mono ?_
          rintro e w' ⟨rfl, rfl⟩
          go_wp2_with fail
          go_round
          case rel => exact ⟨k + 1, by omega, by go_num, HN2⟩
          case measure => simp [intOf]; omega
      · have HF : Hid (b = true) := by show _ = _; rw [← HB.out]; exact fit_yes (by rw [HLU.out, HLA.out]) (fun j hj => HN.out j (by rw [HLU.out] at hj; omega))
        go_wp2_with fail
        go_ret
        exact ⟨retBl HF.out.symm, rfl⟩
  · have HF : Hid (b = false) := by show _ = _; rw [← HB.out]; exact fit_len (by rw [HLU.out, HLA.out]; exact hnm)
    go_enter Tryd.func92, Tryd.ntmps92
    go_wp2_with fail
    go_ret
    exact ⟨retBl HF.out.symm, rfl⟩

theorem tmodMod (a m : Int) : a.tmod m % m = a % m := by
  have h := Int.mul_tdiv_add_tmod a m
  have h2 : a % m = (m * a.tdiv m + a.tmod m) % m := by rw [h]
  rw [h2, Int.mul_add_emod_self_left]

set_option maxHeartbeats 1000000 in
theorem btMod2_any (a m : Int) (w : World) (ha : -2000 ≤ a) (hb : a ≤ 2000) (hm : 0 < m) (hm2 : m ≤ 1024) :
    Calls Tryd.prog 110 #[.int .i64 a, .int .i64 m] w fun e w' => e = .returned (.int .i64 (a % m)) ∧ w = w' := by
  by_cases h0 : 0 ≤ a
  · have e0 := Int.emod_nonneg a (show m ≠ 0 by omega)
    have e1 := Int.emod_lt_of_pos a hm
    go_enter Tryd.func110, Tryd.ntmps110
    go_wp2_with fail
    go_ret
    exact ⟨retI (by rw [Int.add_emod_right, Int.emod_emod]), rfl⟩
  · have e0 := Int.lt_tmod_of_pos a hm
    have e1 := Int.tmod_lt_of_pos a hm
    have HT := Lib.hid (tmodMod a m)
    go_enter Tryd.func110, Tryd.ntmps110
    go_wp2_with fail
    go_ret
    exact ⟨retI HT.out, rfl⟩

set_option maxRecDepth 100000 in
set_option maxHeartbeats 4000000 in
/-- The model's operations; p: the width of the operands. -/
theorem laApply_any (o : ByteArray) (j p : Nat) (a b : Int) (w : World) (ho : opB j = o) (hj : j < 8) (hp : p ≤ 10) (ha : 0 ≤ a ∧ a ≤ 1024) (hb : 0 ≤ b ∧ b ≤ 1024) :
    Calls Tryd.prog 93 #[.string o, .int .i64 (p : Int), .int .i64 a, .int .i64 b] w fun e w' => e = .returned (.int .i64 (opV j (p : Int) a b)) ∧ w = w' := by
  obtain ⟨p21, p22⟩ := pow2_10 p hp
  obtain ⟨ha0, ha1⟩ := ha
  obtain ⟨hb0, hb1⟩ := hb
  have hab : 0 ≤ a * b ∧ a * b ≤ 1048576 := ⟨Int.mul_nonneg ha0 hb0, by have := Int.mul_le_mul ha1 hb1 hb0 (by omega : (0 : Int) ≤ 1024); omega⟩
  obtain ⟨hab0, hab1⟩ := hab
  rcases (by omega : j = 0 ∨ j = 1 ∨ j = 2 ∨ j = 3 ∨ j = 4 ∨ j = 5 ∨ j = 6 ∨ j = 7) with h | h | h | h | h | h | h | h <;> subst h
  · obtain rfl : o = ⟨#[43]⟩ := ho.symm
    clear ho
    have HF : Hid (opV 0 (p : Int) a b = (a + b) % 2 ^ p) := by show _ = _; simp [opV]
    go_enter Tryd.func93, Tryd.ntmps93
    go_wp2_with fail
    go_ret
    exact ⟨retI HF.out.symm, rfl⟩
  · obtain rfl : o = ⟨#[45]⟩ := ho.symm
    clear ho
    have HF : Hid (opV 1 (p : Int) a b = (a - b) % 2 ^ p) := by show _ = _; simp [opV]
    have HM := Lib.hid (btMod2_any (a - b) (2 ^ p) w (by omega) (by omega) (by omega) (by omega))
    go_enter Tryd.func93, Tryd.ntmps93
    go_wp2_with fail
    refine (HM.out).mono ?_
    rintro e w' ⟨rfl, rfl⟩
    go_wp2_with fail
    go_ret
    exact ⟨retI HF.out.symm, rfl⟩
  · obtain rfl : o = ⟨#[42]⟩ := ho.symm
    clear ho
    have HF : Hid (opV 2 (p : Int) a b = a * b) := by show _ = _; simp [opV]
    go_enter Tryd.func93, Tryd.ntmps93
    go_wp2_with fail
    go_ret
    exact ⟨retI HF.out.symm, rfl⟩
  · obtain rfl : o = ⟨#[60]⟩ := ho.symm
    clear ho
    by_cases hlt : a < b
    · have HF : Hid (opV 3 (p : Int) a b = 1) := by show _ = _; simp [opV, hlt]
      go_enter Tryd.func93, Tryd.ntmps93
      go_wp2_with fail
      go_ret
      exact ⟨retI HF.out.symm, rfl⟩
    · have HF : Hid (opV 3 (p : Int) a b = 0) := by show _ = _; simp [opV, hlt]
      go_enter Tryd.func93, Tryd.ntmps93
      go_wp2_with fail
      go_ret
      exact ⟨retI HF.out.symm, rfl⟩
  · obtain rfl : o = ⟨#[61]⟩ := ho.symm
    clear ho
    by_cases hlt : a = b
    · have HF : Hid (opV 4 (p : Int) a b = 1) := by show _ = _; simp [opV, hlt]
      have hq : (a == b) = true := by simpa using hlt
      clear hlt
      go_enter Tryd.func93, Tryd.ntmps93
      go_wp2_with fail
      go_ret
      exact ⟨retI HF.out.symm, rfl⟩
    · have HF : Hid (opV 4 (p : Int) a b = 0) := by show _ = _; simp [opV, hlt]
      have hq : (a == b) = false := by simpa using hlt
      go_enter Tryd.func93, Tryd.ntmps93
      go_wp2_with fail
      go_ret
      exact ⟨retI HF.out.symm, rfl⟩
  · obtain rfl : o = ⟨#[38]⟩ := ho.symm
    clear ho
    have HF : Hid (opV 5 (p : Int) a b = bits .and .i64 a b) := by show _ = _; simp [opV]
    go_enter Tryd.func93, Tryd.ntmps93
    go_wp2_with fail
    go_ret
    exact ⟨retI HF.out.symm, rfl⟩
  · obtain rfl : o = ⟨#[124]⟩ := ho.symm
    clear ho
    have HF : Hid (opV 6 (p : Int) a b = bits .or .i64 a b) := by show _ = _; simp [opV]
    go_enter Tryd.func93, Tryd.ntmps93
    go_wp2_with fail
    go_ret
    exact ⟨retI HF.out.symm, rfl⟩
  · obtain rfl : o = ⟨#[94]⟩ := ho.symm
    clear ho
    have HF : Hid (opV 7 (p : Int) a b = bits .xor .i64 a b) := by show _ = _; simp [opV]
    go_enter Tryd.func93, Tryd.ntmps93
    go_wp2_with fail
    go_ret
    exact ⟨retI HF.out.symm, rfl⟩

end Go.Proofs.YtcbofogmfelpkaaDoor

/- Numbers that are left of a list; rows by their cells. No condition beyond what each lemma names. -/
namespace Go.Proofs.YtcbofogmfelpkaaDoor
open Go Go.RowKit
set_option maxRecDepth 100000


/-- v is the slice of what is left of zs behind i elements; they lie below block S. -/
def InLeft (S : Nat) (w : World) (v : Value) (zs : List Int) (i : Nat) : Prop := ∃ (A : Option Addr) (m d : Nat), v = .slice A m d ∧ Has w A m (zs.drop i) ∧ m ≤ d ∧ Old S A m
theorem InLeft.below {S : Nat} {w w' : World} {v : Value} {zs : List Int} {i : Nat} (h : InLeft S w v zs i) (hb : Below S w w') : InLeft S w' v zs i := by
  obtain ⟨A, m, d, e, h1, h2, h3⟩ := h
  refine ⟨A, m, d, e, ⟨h1.1, fun hm => ?_⟩, h2, h3⟩
  exact (h1.keep' hb (fun ad ea => h3 hm ad ea)).2 hm
theorem InLeft.start {S : Nat} {w w' : World} {A : Option Addr} {m d : Nat} {zs : List Int} (h : Has w A m zs) (hd : m ≤ d) (hb : Below w.heap.size w w') (hS : w.heap.size ≤ S) : InLeft S w' (.slice A m d) zs 0 :=
  ⟨A, m, d, rfl, h.below hb, hd, fun hm ad e => Nat.lt_of_lt_of_le (h.old hm ad e) hS⟩
theorem drop_at (zs : List Int) (i k : Nat) : (zs.drop i).getD k 0 = zs.getD (i + k) 0 := by simp [List.getD_eq_getElem?_getD]
theorem addTwice (ad : Addr) (k : Nat) : (ad.add 1).add k = ad.add (k + 1) := by
  by_cases h : k = 0
  · subst h; simp [Addr.add]
  · simp [Addr.add, h]; omega
theorem Has.tail {w : World} {ad : Addr} {m : Nat} {z : Int} {zs : List Int} (h : Has w (some ad) (m + 1) (z :: zs)) : Has w (some (ad.add 1)) m zs := by
  refine ⟨by have := h.1; simpa using this, fun hm => ?_⟩
  obtain ⟨ad', e, hb, hc⟩ := h.2 (by omega)
  obtain rfl : ad = ad' := Option.some.inj e
  refine ⟨_, rfl, by rw [addBlock]; exact hb, fun k hk => ?_⟩
  have := hc (k + 1) (by omega)
  rw [addTwice, this]
  simp

/-- A row of the call's own by its cells. -/
theorem Own.cells {w : World} {B n c : Nat} {A : Option Addr} {zs : List Int} (h : Own w B A n c zs) (hn : 0 < n) : ∃ g, A = some ⟨g, 0, none⟩ ∧ B ≤ g ∧ g < w.heap.size ∧ ∀ k, k < n → w.cell? ⟨g, k, none⟩ = some (.int .i64 (zs.getD k 0)) := by
  obtain ⟨g, cap, hv, hg, hlt⟩ := h.2.form hn
  have hA : A = some ⟨g, 0, none⟩ := by injection hv
  subst hA
  refine ⟨g, rfl, ?_, hlt, fun k hk => ?_⟩
  · exact (h.2.lt g rfl).1
  · have := h.has.2 hn
    obtain ⟨ad, e, _, hc⟩ := this
    obtain rfl : ad = ⟨g, 0, none⟩ := (Option.some.inj e).symm
    have h2 := hc k hk
    rwa [addNone'] at h2
/-- The first number of what is left, and what is left behind it. -/
theorem InLeft.step {S : Nat} {w : World} {v : Value} {zs : List Int} {i : Nat} (h : InLeft S w v zs i) (hi : i < zs.length) :
    ∃ (ad : Addr) (m d : Nat), v = .slice (some ad) (m + 1) d ∧ w.cell? ad = some (.int .i64 (zs.getD i 0)) ∧ m + 1 ≤ d ∧ m + 1 ≤ zs.length ∧ ad.block < S ∧ Hid (InLeft S w (.slice (some (ad.add 1)) m (d - 1)) zs (i + 1)) ∧ Hid (d = 1 → InLeft S w (.slice (some ad) 0 0) zs (i + 1)) := by
  obtain ⟨A, m, d, rfl, h1, h2, h3⟩ := h
  have hl := h1.1
  rw [List.length_drop] at hl
  obtain ⟨m, rfl⟩ : ∃ m', m = m' + 1 := ⟨m - 1, by omega⟩
  obtain ⟨ad, rfl, hb, hc⟩ := h1.2 (by omega)
  have h0 := hc 0 (by omega)
  rw [drop_at] at h0
  have e : zs.drop i = zs[i] :: zs.drop (i + 1) := List.drop_eq_getElem_cons hi
  have hS := h3 (by omega) ad rfl
  refine ⟨ad, m, d, rfl, by simpa [Addr.add] using h0, h2, by omega, hS, ?_, ?_⟩
  · rw [e] at h1
    exact ⟨_, _, _, rfl, h1.tail, by omega, fun _ ad' e' => by rw [← Option.some.inj e', addBlock]; exact hS⟩
  · intro hd
    have hm : m = 0 := by omega
    subst hm
    exact ⟨_, _, _, rfl, ⟨by rw [List.length_drop]; omega, fun h => absurd h (by omega)⟩, Nat.le_refl _, fun h => absurd h (by omega)⟩

end Go.Proofs.YtcbofogmfelpkaaDoor

/- The model's values of a program's lines (laValues). For lists of at most 1048576 lines and inputs that are asked. -/
namespace Go.Proofs.YtcbofogmfelpkaaDoor
open Go Go.RowKit
set_option maxRecDepth 100000


/-- The width that the model has at hand behind the first j parts: that of the last one. -/
def lastW (ls : List Ln) (k : Nat) (ps : List ByteArray) (j : Nat) : Int := if j = 0 then 0 else (partWs (ls.take k) (widths ls) ps).getD (j - 1) 0

set_option maxRecDepth 100000 in
set_option maxHeartbeats 8000000 in
theorem laValues_any (A : Option Addr) (n c : Nat) (ls : List Ln) (Aa : Option Addr) (na ca : Nat) (xs : List Int) (Ab : Option Addr) (nb cb : Nat) (ys : List Int) (w : World) (h : HasL w A n ls) (hn : n ≤ 1048576) (hnc : n ≤ c) (hz : ∀ j, j < n → FitL (lnAt ls j))
    (ha : Has w Aa na xs) (hna : na ≤ ca) (hb : Has w Ab nb ys) (hnb : nb ≤ cb) (hq : askedP ls xs ys = true) :
    Calls Tryd.prog 63 #[.slice A n c, .slice Aa na ca, .slice Ab nb cb] w fun e w' => ∃ R c', e = .returned (.slice R n c') ∧ Own w' w.heap.size R n c' (vals5 ls xs ys) ∧ Below w.heap.size w w' := by
  have HW := Lib.hid (laWidths_any A n c ls w h hn hnc hz)
  have HH := Lib.hid h
  have HL : Hid (ls.length = n) := h.1
  have HA := Lib.hid ha
  have HB := Lib.hid hb
  have HQ := Lib.hid hq
  have HGd := Lib.hid (asked_yes hq)
  have HPt := Lib.hid (good_parts (asked_yes hq).1)
  have HPow := Lib.hid pow2_10
  have n30 : n ≤ 30 := by have := (good_parts (asked_yes hq).1).1; have := h.1; omega
  clear h hz ha hb hq
  go_enter Tryd.func63, Tryd.ntmps63
  go_wp2_with fail
  refine (HW.out).mono ?_
  rintro e w1 ⟨Rw, cw, rfl, ow, b1⟩
  have HB1 := Lib.hid b1
  have HWd := Lib.hid ow.has
  have HI0 : Hid (InLeft w1.heap.size w1 (.slice Aa na ca) xs (cntIn 0 (ls.take 0)) ∧ InLeft w1.heap.size w1 (.slice Ab nb cb) ys (cntIn 1 (ls.take 0))) := ⟨InLeft.start HA.out hna b1 b1.size, InLeft.start HB.out hnb b1 b1.size⟩
  have HO0 : Hid (Own w1 w1.heap.size none 0 0 (valsTo ls xs ys 0)) := Own.nil_ _ _
  have HR0 := Lib.hid (Below.refl w1.heap.size w1)
  have s1 := b1.size
  clear HW ow b1
  go_wp2_with fail
  go_loopw [1, 2, 8, 20] (fun va vb vo iv wr => ∃ (k : Nat) (R : Option Addr) (c' : Nat), k ≤ n ∧ iv = .int .i64 k ∧ InLeft w1.heap.size wr va xs (cntIn 0 (ls.take k)) ∧ InLeft w1.heap.size wr vb ys (cntIn 1 (ls.take k)) ∧ vo = .slice R k c' ∧ Own wr w1.heap.size R k c' (valsTo ls xs ys k) ∧ Hid (Below w1.heap.size w1 wr)) (fun _ _ _ iv _ => n - (intOf iv).toNat)
  case atStart => exact ⟨0, none, 0, Nat.zero_le _, rfl, HI0.out.1, HI0.out.2, rfl, HO0.out, HR0⟩
  case round =>
    clear HI0 HO0 HR0
    obtain ⟨k, R, c', hk, rfl, hva, hvb, rfl, ho, bk⟩ := hrel
    obtain ⟨w3, rfl⟩ : ∃ x, x = wr := ⟨_, rfl⟩
    have Bk := Lib.hid (HB1.out.trans (bk.out.mono HB1.out.size))
    have sk := bk.out.size
    by_cases hlt : k < n
    · obtain ⟨ad, kd, nm, o, ps, py, wd, vl, P, q, d, rfl, hc, hp, _, _, HT⟩ := (HH.out.below Bk.out).line hlt
      obtain ⟨c0, c1, c2, c3, c4, c5, c6⟩ := hc.cells
      have hkl : k < ls.length := by rw [HL.out]; exact hlt
      have hok := line_good HPt.out.2.1 hkl
      have hpl := parts_ok5 hok
      have hkk := kind_ok hok
      have hval := val_ok HQ.out hkl (vals_range HQ.out k (by omega))
      have hwid := width_at HGd.out.1 hkl
      rw [HT.out] at hok hpl hkk hwid
      simp only at hpl hkk
      have hq3 : q ≤ 3 := by have h1 := hp.1; rw [h1] at hpl; unfold partsK at hpl; repeat' (split at hpl); all_goals omega
      have HOk := Lib.hid hok
      have HKq : Hid ((q : Int) = partsK kd) := by have h1 := hp.1; rw [h1] at hpl; exact hpl
      have HKk := Lib.hid hkk
      have HVal := Lib.hid hval
      have HWid := Lib.hid hwid
      have hPart : ∀ i, i < q → ∃ j, j < k ∧ findL ls (wordAt ps i) = (j : Int) ∧ findL (ls.take k) (wordAt ps i) = (j : Int) ∧ ∀ ws : List Int, (partWs (ls.take k) ws ps).getD i 0 = ws.getD j 0 := fun i hi => by
        have h1 := part_at HPt.out.2.2.1 hkl (i := i) (by rw [HT.out]; show i < ps.length; rw [hp.1]; exact hi)
        rw [HT.out] at h1
        exact h1
      have HPart := Lib.hid hPart
      have HPs := Lib.hid hp
      have k0 : (0 : Int) ≤ (k : Int) := by omega
      have k1 : (k : Int) < (n : Int) := by omega
      have b5 := belowNew w3 (.cells #[.int .i64 kd, .string nm, .string o, .slice P q d, .int .i64 py, .int .i64 wd, .int .i64 vl] 53)
      have y5 := Blk.new w3 #[.int .i64 kd, .string nm, .string o, .slice P q d, .int .i64 py, .int .i64 wd, .int .i64 vl] 53
      have hva5 := hva.below (b5.mono sk)
      have hvb5 := hvb.below (b5.mono sk)
      obtain ⟨W5, hW5⟩ : ∃ W, W = w3.alloc (.cells #[.int .i64 kd, .string nm, .string o, .slice P q d, .int .i64 py, .int .i64 wd, .int .i64 vl] 53) := ⟨_, rfl⟩
      rw [← hW5] at b5 y5 hva5 hvb5
      obtain ⟨⟨d0, d1, d2, d3, d4, d5, d6⟩, _⟩ := y5.seven
      have HB5 := Lib.hid b5
      have HY5 := Lib.hid y5
      have HIa := Lib.hid hva5
      have HIb := Lib.hid hvb5
      have HOut := Lib.hid (ho.below b5)
      have HPp := Lib.hid (hp.below b5)
      have HWd5 := Lib.hid ((HWd.out.below bk.out).below b5)
      have HHl := Lib.hid ((HH.out.below Bk.out).below b5)
      have BW5 := Lib.hid (bk.out.trans (b5.mono sk))
      have s5 := b5.size
      have HO5 : Hid (Own W5 W5.heap.size none 0 0 (partWs (ls.take k) (valsTo ls xs ys k) (ps.take 0))) := Own.nil_ _ _
      have HL5 : Hid ((0 : Int) = lastW ls k ps 0) := by show _ = _; rw [lastW, if_pos rfl]
      have HR5 := Lib.hid (Below.refl W5.heap.size W5)
      clear hc hp hok hpl hkk hval hwid hPart b5 y5 hva5 hvb5 hva hvb ho
      go_upto_region 6 with fail
      rw [← hW5]
      clear hW5 c0 c1 c2 c3 c4 c5 c6
      go_wp2_with fail
      clear d0 d1 d2 d3 d4 d5 d6
      go_loopw [11, 12, 27] (fun vv vu jv wq => ∃ (j : Nat) (R2 : Option Addr) (c2 : Nat) (u : Int), j ≤ q ∧ jv = .int .i64 j ∧ vv = .slice R2 j c2 ∧ vu = .int .i64 u ∧ Hid (u = lastW ls k ps j) ∧ Own wq W5.heap.size R2 j c2 (partWs (ls.take k) (valsTo ls xs ys k) (ps.take j)) ∧ Hid (Below W5.heap.size W5 wq)) (fun _ _ jv _ => q - (intOf jv).toNat)
      case atStart => exact ⟨0, none, 0, 0, Nat.zero_le _, rfl, rfl, rfl, HL5, HO5.out, HR5⟩
      case round =>
        clear HL5 HO5 HR5
        obtain ⟨j, R2, c2, u, hj, rfl, rfl, rfl, hu, ho2, b6⟩ := hrel
        obtain ⟨w6, rfl⟩ : ∃ x, x = wr := ⟨_, rfl⟩
        by_cases hjl : j < q
        · obtain ⟨adp, rfl, hcs⟩ := (HPp.out.below b6.out).elem hjl
          obtain ⟨i, hik, hf1, hf2, hws⟩ := HPart.out j hjl
          obtain ⟨s, hs⟩ : ∃ s, wordAt ps j = s := ⟨_, rfl⟩
          rw [hs] at hcs hf1 hf2
          have HFi := Lib.hid (fun W hW => laFind_any (some ad) n c ls s W hW (by omega))
          rw [hf1] at HFi
          obtain ⟨ad2, z, e2, hcz, HZ⟩ := HOut.out.has.elem hik
          obtain ⟨ad3, x, e3, hcx, HX⟩ := HWd5.out.elem (k := i) (by omega)
          have HS : Hid (partWs (ls.take k) (valsTo ls xs ys k) (ps.take j) ++ [z] = partWs (ls.take k) (valsTo ls xs ys k) (ps.take (j + 1))) := by
            show _ = _
            rw [partWs_step _ _ ps j (by rw [HPs.out.1]; exact hjl), hs, hf2, HZ.out]
            rfl
          have HU2 : Hid (x = lastW ls k ps (j + 1)) := by
            show _ = _
            rw [lastW, if_neg (by omega), show j + 1 - 1 = j by omega, hws, HX.out]
          have j0 : (0 : Int) ≤ (j : Int) := by omega
          have j1 : (j : Int) < (q : Int) := by omega
          have i0 : (0 : Int) ≤ (i : Int) := by omega
          have i1 : (i : Int) < (k : Int) := by omega
          have i2 : (i : Int) < (n : Int) := by omega
          have l2 : ad2.block < W5.heap.size := by have := World.block_lt_of_cell? W5 _ hcz; rwa [addBlock] at this
          have l3 : ad3.block < W5.heap.size := by have := World.block_lt_of_cell? W5 _ hcx; rwa [addBlock] at this
          have HKz : Hid (∀ W', Below W5.heap.size W5 W' → W'.cell? (ad2.add i) = some (.int .i64 z) ∧ W'.cell? (ad3.add i) = some (.int .i64 x)) := fun W' hb => ⟨(World.cell?_of_block (hb.block _ (by rw [addBlock]; exact l2))).trans hcz, (World.cell?_of_block (hb.block _ (by rw [addBlock]; exact l3))).trans hcx⟩
          subst e2
          subst e3
          have HO6 := Lib.hid ho2
          have s6 := b6.out.size
          clear hs hf1 hf2 hws HZ HX hcz hcx l2 l3 ho2
          go_wp2_with fail
          refine (HFi.out w6 (HHl.out.below b6.out)).mono ?_
          rintro e w7 ⟨rfl, b7⟩
          have B7 := Lib.hid (b6.out.trans (b7.mono s6))
          have s7 := B7.out.size
          obtain ⟨g1, _⟩ := HKz.out w7 B7.out
          have ho7 := HO6.out.below b7
          clear b7
          go_wp2_with (at_builtin; refine appendInt w7 rfl (.tmp 31) (.tmp 38) rfl z W5.heap.size _ j _ rfl rfl ho7.2 (by omega) (by omega) ?_; intro v8 w8 own8 b8)
          rw [HS.out] at own8
          obtain ⟨R8, c8, rfl, ho8⟩ := ownOf own8
          have B8 := Lib.hid (B7.out.trans b8)
          have HO8 := Lib.hid ho8
          have s8 := B8.out.size
          clear g1 ho7 own8 ho8 b8
          refine (HFi.out w8 (HHl.out.below B8.out)).mono ?_
          rintro e w9 ⟨rfl, b9⟩
          obtain ⟨_, g2⟩ := HKz.out w9 (B8.out.trans (b9.mono s8))
          have HO9 := Lib.hid (HO8.out.below b9)
          have B9 := Lib.hid (B8.out.trans (b9.mono B8.out.size))
          clear b9
          go_wp2_with fail
          go_roundw
          case rel => exact ⟨j + 1, R8, c8, x, by omega, by go_num, rfl, rfl, HU2, HO9.out, B9⟩
          case measure => simp [intOf]; omega
        · obtain rfl : j = q := by omega
          have ho6 : Own w6 W5.heap.size R2 j c2 (partWs (ls.take k) (valsTo ls xs ys k) ps) := by rw [List.take_of_length_le (l := ps) (by rw [HPs.out.1]; exact Nat.le_refl _)] at ho2; exact ho2
          have HO6 := Lib.hid ho6
          obtain ⟨⟨d0, d1, d2, d3, d4, d5, d6⟩, _⟩ := (HY5.out.below' b6.out).seven
          have hva6 := HIa.out.below (b6.out.mono BW5.out.size)
          have hvb6 := HIb.out.below (b6.out.mono BW5.out.size)
          obtain ⟨x, hx⟩ : ∃ x, valL (ls.take k) (valsTo ls xs ys k) xs ys ((widths ls).getD k 0) (lnAt ls k) = x := ⟨_, rfl⟩
          have HX := Lib.hid hx
          have HV := HVal.out
          rw [hx] at HV
          have hNA : cntIn 0 (ls.take (k + 1)) = cntIn 0 (ls.take k) + (if kd = 1 ∧ py = 0 then 1 else 0) := by have := cntIn_next 0 ls k (by rw [HL.out]; exact hlt); rw [HT.out] at this; exact this
          have hNB : cntIn 1 (ls.take (k + 1)) = cntIn 1 (ls.take k) + (if kd = 1 ∧ py = 1 then 1 else 0) := by have := cntIn_next 1 ls k (by rw [HL.out]; exact hlt); rw [HT.out] at this; exact this
          have HNA := Lib.hid hNA
          have HNB := Lib.hid hNB
          have HIa6 := Lib.hid hva6
          have HIb6 := Lib.hid hvb6
          have HR6 := Lib.hid (Below.refl w6.heap.size w6)
          have s6 := b6.out.size
          have s15 := BW5.out.size
          have s16 : w1.heap.size ≤ w6.heap.size := by omega
          clear hx hNA hNB hva6 hvb6 ho2 ho6
          have hPV : ∀ i, i < j → ∃ (u : Nat) (v : Int), (partWs (ls.take k) (progTo ls k) ps).getD i 0 = (u : Int) ∧ (partWs (ls.take k) (widths ls) ps).getD i 0 = (u : Int) ∧ (partWs (ls.take k) (valsTo ls xs ys k) ps).getD i 0 = v ∧ (1 ≤ u ∧ u ≤ 10) ∧ 0 ≤ v ∧ v < 2 ^ u := fun i hi => by
            have h1 := part_vals HQ.out (k := k) (by rw [HL.out]; exact hlt) (i := i) (by rw [HT.out]; show i < ps.length; rw [HPs.out.1]; exact hi)
            rw [HT.out] at h1
            exact h1
          have HPV := Lib.hid hPV
          clear hPV
          go_upto_block 4 with fail
          go_cut [1, 2, 15] (fun va vb vn wx => InLeft w1.heap.size wx va xs (cntIn 0 (ls.take (k + 1))) ∧ InLeft w1.heap.size wx vb ys (cntIn 1 (ls.take (k + 1))) ∧ vn = .int .i64 x ∧ Hid (Below w6.heap.size w6 wx))
          case first =>
            rcases HKk.out with h | h | h | h | h | h <;> subst h
            · have hpy : py = 0 ∨ py = 1 := by
                have h1 := HOk.out
                rw [lineOk, Bool.and_eq_true] at h1
                have h2 := h1.2
                rw [kindOk, if_pos rfl] at h2
                simp only [Bool.and_eq_true, decide_eq_true_eq] at h2
                omega
              rcases hpy with h | h <;> subst h
              · have hin := inputs_at (p := 0) (k := k) (ls := ls) (by rw [HL.out]; exact hlt) (by rw [HT.out]; exact ⟨rfl, rfl⟩)
                have hfl := fit_at HGd.out.2.1 hin.1
                obtain ⟨ad1, m1, d1, rfl, hz1, hm1, hm2, _, HS1, HS2⟩ := HIa6.out.step (by rw [← hfl.1]; exact hin.1)
                have hxv : xs.getD (cntIn 0 (ls.take k)) 0 = x := by rw [← HX.out, HT.out, valL, if_pos rfl, if_pos rfl]
                rw [hxv] at hz1
                clear hin hfl hxv
                have HA1 : Hid (cntIn 0 (ls.take (k + 1)) = cntIn 0 (ls.take k) + 1) := by show _ = _; rw [HNA.out, if_pos ⟨rfl, rfl⟩]
                have HB1' : Hid (cntIn 1 (ls.take (k + 1)) = cntIn 1 (ls.take k)) := by show _ = _; rw [HNB.out, if_neg (by omega)]; rfl
                by_cases hd : d1 = 1
                · subst hd
                  obtain rfl : m1 = 0 := by omega
                  go_wp2_with fail
                  go_meet
                  exact ⟨by rw [HA1.out]; exact HS2.out trivial, by rw [HB1'.out]; exact HIb6.out, rfl, HR6⟩
                · go_wp2_with fail
                  go_meet
                  exact ⟨by rw [HA1.out]; exact HS1.out, by rw [HB1'.out]; exact HIb6.out, rfl, HR6⟩
              · have hin := inputs_at (p := 1) (k := k) (ls := ls) (by rw [HL.out]; exact hlt) (by rw [HT.out]; exact ⟨rfl, rfl⟩)
                have hfl := fit_at HGd.out.2.2 hin.1
                obtain ⟨ad1, m1, d1, rfl, hz1, hm1, hm2, _, HS1, HS2⟩ := HIb6.out.step (by rw [← hfl.1]; exact hin.1)
                have hxv : ys.getD (cntIn 1 (ls.take k)) 0 = x := by rw [← HX.out, HT.out, valL, if_pos rfl, if_neg (by simp)]
                rw [hxv] at hz1
                clear hin hfl hxv
                have HA1 : Hid (cntIn 1 (ls.take (k + 1)) = cntIn 1 (ls.take k) + 1) := by show _ = _; rw [HNB.out, if_pos ⟨rfl, rfl⟩]
                have HB1' : Hid (cntIn 0 (ls.take (k + 1)) = cntIn 0 (ls.take k)) := by show _ = _; rw [HNA.out, if_neg (by omega)]; rfl
                by_cases hd : d1 = 1
                · subst hd
                  obtain rfl : m1 = 0 := by omega
                  go_wp2_with fail
                  go_meet
                  exact ⟨by rw [HB1'.out]; exact HIa6.out, by rw [HA1.out]; exact HS2.out trivial, rfl, HR6⟩
                · go_wp2_with fail
                  go_meet
                  exact ⟨by rw [HB1'.out]; exact HIa6.out, by rw [HA1.out]; exact HS1.out, rfl, HR6⟩
            · have hxv : vl = x := by rw [← HX.out, HT.out, valL_2]
              subst hxv
              have HA1 : Hid (InLeft w1.heap.size w6 u1 xs (cntIn 0 (ls.take (k + 1)))) := by show InLeft _ _ _ _ _; rw [HNA.out, if_neg (by omega)]; exact HIa6.out
              have HB1' : Hid (InLeft w1.heap.size w6 u2 ys (cntIn 1 (ls.take (k + 1)))) := by show InLeft _ _ _ _ _; rw [HNB.out, if_neg (by omega)]; exact HIb6.out
              go_wp2_with fail
              go_meet
              exact ⟨HA1.out, HB1'.out, rfl, HR6⟩
            all_goals
              have HA1 : Hid (InLeft w1.heap.size w6 u1 xs (cntIn 0 (ls.take (k + 1)))) := by show InLeft _ _ _ _ _; rw [HNA.out, if_neg (by omega)]; exact HIa6.out
              have HB1' : Hid (InLeft w1.heap.size w6 u2 ys (cntIn 1 (ls.take (k + 1)))) := by show InLeft _ _ _ _ _; rw [HNB.out, if_neg (by omega)]; exact HIb6.out
              have hj0 := HKq.out
              simp [partsK] at hj0
            · obtain rfl : j = 2 := by omega
              obtain ⟨p0, v0, pa0, pb0, pv0, pr0, vr0⟩ := HPV.out 0 (by omega)
              obtain ⟨p1, v1, pa1, pb1, pv1, pr1, vr1⟩ := HPV.out 1 (by omega)
              obtain ⟨g, rfl, hg1, hg2, hcl⟩ := HO6.out.cells (by omega)
              have cv0 := hcl 0 (by omega)
              have cv1 := hcl 1 (by omega)
              rw [pv0] at cv0
              rw [pv1] at cv1
              have hw3 := HWid.out.1
              rw [pWidth, if_neg (by omega), if_pos rfl, pa0, pa1] at hw3
              have h10 := HWid.out.2.1
              have e01 : p0 = p1 := by
                split at hw3
                · omega
                · omega
              subst e01
              rw [if_pos rfl] at hw3
              have hu2 : u = (p0 : Int) := by rw [hu.out, lastW, if_neg (by omega)]; exact pb1
              subst hu2
              have h8 := lineOk_op HOk.out rfl
              simp only at h8
              have hpw := pow2_ten (n := p0) pr0.2
              have hxv : opV (opIx o) (p0 : Int) v0 v1 = x := by
                rw [← HX.out, HT.out, valL_3, pv0, pv1]
                refine (opV_w (fun h01 => ?_)).symm
                rw [hw3, opW, if_neg (by omega), if_neg (by omega)]
              have HLa : Hid (∀ W, Calls Tryd.prog 93 #[.string o, .int .i64 (p0 : Int), .int .i64 v0, .int .i64 v1] W fun e w' => e = .returned (.int .i64 x) ∧ w' = W) := fun W => by
                have h1 := laApply_any o (opIx o) p0 v0 v1 W ((opIx_eq h8).1 rfl) h8 pr0.2 (by omega) (by omega)
                rw [hxv] at h1
                exact h1.mono fun _ _ ⟨h1, h2⟩ => ⟨h1, h2.symm⟩
              clear pa0 pb0 pv0 pa1 pb1 pv1 hcl hw3 h10 h8 hpw hxv hj0
              go_wp2_with fail
              go_quiet ((go_at_call 93; exact Calls.quiet_of_same (HLa.out _)))
              go_wp2_with fail
              go_meet
              exact ⟨HA1.out.below ((below_drewN HR6.out _).mono s16), HB1'.out.below ((below_drewN HR6.out _).mono s16), rfl, below_drewN HR6.out _⟩
            · obtain rfl : j = 1 := by omega
              obtain ⟨p0, v0, pa0, pb0, pv0, pr0, vr0⟩ := HPV.out 0 (by omega)
              obtain ⟨g, rfl, hg1, hg2, hcl⟩ := HO6.out.cells (by omega)
              have cv0 := hcl 0 (by omega)
              rw [pv0] at cv0
              have hw3 := HWid.out.1
              rw [pWidth, if_neg (by omega), if_neg (by omega), if_neg (by omega), pa0] at hw3
              have hu2 : u = (p0 : Int) := by rw [hu.out, lastW, if_neg (by omega)]; exact pb0
              subst hu2
              have hpw := HPow.out p0 pr0.2
              have hxv : 2 ^ p0 - 1 - v0 = x := by
                rw [← HX.out, HT.out, valL_4, pv0, hw3, Int.toNat_natCast]
              have HXv := Lib.hid hxv
              obtain ⟨hpw1, hpw2⟩ := hpw
              obtain ⟨vr1, vr2⟩ := vr0
              have p10 := pr0.2
              clear pa0 pb0 pv0 hcl hw3 hxv hj0 pr0
              go_wp2_with fail
              go_meet
              exact ⟨HA1.out, HB1'.out, by rw [← HXv.out], HR6⟩
            · obtain rfl : j = 3 := by omega
              obtain ⟨p0, v0, pa0, pb0, pv0, pr0, vr0⟩ := HPV.out 0 (by omega)
              obtain ⟨p1, v1, pa1, pb1, pv1, pr1, vr1⟩ := HPV.out 1 (by omega)
              obtain ⟨p2, v2, pa2, pb2, pv2, pr2, vr2⟩ := HPV.out 2 (by omega)
              obtain ⟨g, rfl, hg1, hg2, hcl⟩ := HO6.out.cells (by omega)
              have cv0 := hcl 0 (by omega)
              have cv1 := hcl 1 (by omega)
              have cv2 := hcl 2 (by omega)
              rw [pv0] at cv0
              rw [pv1] at cv1
              rw [pv2] at cv2
              have hw3 := HWid.out.1
              rw [pWidth, if_neg (by omega), if_neg (by omega), if_pos rfl, pa0, pa1, pa2] at hw3
              have h10 := HWid.out.2.1
              have e01 : p0 = 1 := by
                split at hw3
                · omega
                · omega
              subst e01
              have hxv : (if v0 = 1 then v1 else v2) = x := by
                rw [← HX.out, HT.out, valL_5, pv0, pv1, pv2]
              clear pa0 pb0 pv0 pa1 pb1 pv1 pa2 pb2 pv2 hcl hw3 h10 hj0
              rcases (by omega : v0 = 0 ∨ v0 = 1) with h | h <;> subst h
              · rw [if_neg (by omega)] at hxv
                subst hxv
                go_wp2_with fail
                go_meet
                exact ⟨HA1.out, HB1'.out, rfl, HR6⟩
              · rw [if_pos rfl] at hxv
                subst hxv
                go_wp2_with fail
                go_meet
                exact ⟨HA1.out, HB1'.out, rfl, HR6⟩
            · obtain rfl : j = 1 := by omega
              obtain ⟨p0, v0, pa0, pb0, pv0, pr0, vr0⟩ := HPV.out 0 (by omega)
              obtain ⟨g, rfl, hg1, hg2, hcl⟩ := HO6.out.cells (by omega)
              have cv0 := hcl 0 (by omega)
              rw [pv0] at cv0
              have hxv : v0 = x := by
                rw [← HX.out, HT.out, valL_6, pv0]
              subst hxv
              clear pa0 pb0 pv0 hcl hj0
              go_wp2_with fail
              go_meet
              exact ⟨HA1.out, HB1'.out, rfl, HR6⟩
          case rest =>
            obtain ⟨hia, hib, rfl, hb7⟩ := hcut
            obtain ⟨w7, rfl⟩ : ∃ z, z = wc := ⟨_, rfl⟩
            have s7 := hb7.out.size
            have B7 := Lib.hid (b6.out.trans (hb7.out.mono s6))
            have ho7 := HOut.out.below B7.out
            have HE : Hid (valsTo ls xs ys k ++ [x] = valsTo ls xs ys (k + 1)) := by show _ = _; rw [valsTo, HX.out]
            have HIa7 := Lib.hid hia
            have HIb7 := Lib.hid hib
            have sw := BW5.out.size
            clear hia hib d0 d1 d2 d3 d4 d5 d6
            go_wp2_with (at_builtin; refine appendInt w7 rfl (.tmp 116) (.tmp 118) rfl x w1.heap.size _ k _ rfl rfl ho7.2 (by omega) (by omega) ?_; intro v8 w8 own8 b8)
            rw [HE.out] at own8
            obtain ⟨R8, c8, rfl, ho8⟩ := ownOf own8
            go_roundw
            case rel => exact ⟨k + 1, R8, c8, by omega, by go_num, HIa7.out.below b8, HIb7.out.below b8, rfl, ho8, (BW5.out.trans (B7.out.mono sw)).trans b8⟩
            case measure => simp [intOf]; omega
    · obtain rfl : k = n := by omega
      have HF : Hid (Own w3 w.heap.size R k c' (vals5 ls xs ys)) := by show Own _ _ _ _ _ _; rw [vals5, HL.out]; exact ho.mono s1
      go_wp2_with fail
      go_ret
      exact ⟨R, c', rfl, HF.out, Bk.out⟩

end Go.Proofs.YtcbofogmfelpkaaDoor

/- The model's values and results for inputs (ValuesIn, RunProgram). For lists of at most 1048576 lines and numbers. -/
namespace Go.Proofs.YtcbofogmfelpkaaDoor
open Go Go.RowKit
set_option maxRecDepth 100000


theorem inputs_10 {ls : List Ln} (h : ls.all lineOk = true) (p : Int) (j : Nat) : 0 ≤ (inputsOf p ls).getD j 0 ∧ (inputsOf p ls).getD j 0 ≤ 10 := by
  have key := getD_map_range (l := ls.filter fun x => decide (x.kind = 1 ∧ x.party = p)) (f := (·.width)) (b := 10) (by omega) (fun x hx => by
    rw [List.mem_filter, decide_eq_true_eq] at hx
    obtain ⟨hx, h1, _⟩ := hx
    rw [List.all_eq_true] at h
    exact lineOk_width (h x hx) (.inl h1)) j
  exact key
theorem asked_g {ls : List Ln} {a b : List Int} (h : goodP ls = false) : askedP ls a b = false := by rw [askedP, h]; rfl
theorem asked_a {ls : List Ln} {a b : List Int} (h : fitB (inputsOf 0 ls) a = false) : askedP ls a b = false := by rw [askedP, h]; simp
theorem asked_b {ls : List Ln} {a b : List Int} (h : fitB (inputsOf 1 ls) b = false) : askedP ls a b = false := by rw [askedP, h]; simp

set_option maxRecDepth 100000 in
set_option maxHeartbeats 4000000 in
theorem laAsked_any (A : Option Addr) (n c : Nat) (ls : List Ln) (Aa : Option Addr) (na ca : Nat) (xs : List Int) (Ab : Option Addr) (nb cb : Nat) (ys : List Int) (w : World) (h : HasL w A n ls) (hn : n ≤ 1048576) (hnc : n ≤ c) (hz : ∀ j, j < n → FitL (lnAt ls j))
    (ha : Has w Aa na xs) (hna : na ≤ 1048576) (hb : Has w Ab nb ys) (hnb : nb ≤ 1048576) :
    Calls Tryd.prog 62 #[.slice A n c, .slice Aa na ca, .slice Ab nb cb] w fun e w' => e = .returned (.bool (askedP ls xs ys)) ∧ Below w.heap.size w w' := by
  have HG := Lib.hid (laGood_any A n c ls w h hn hnc hz)
  have HH := Lib.hid h
  have HA := Lib.hid ha
  have HB := Lib.hid hb
  clear h hz ha hb
  obtain ⟨b, hb⟩ : ∃ b, goodP ls = b := ⟨_, rfl⟩
  rw [hb] at HG
  have HGo := Lib.hid hb
  clear hb
  cases b with
  | false =>
    have HF : Hid (askedP ls xs ys = false) := asked_g HGo.out
    go_enter Tryd.func62, Tryd.ntmps62
    go_wp2_with fail
    refine (HG.out).mono ?_
    rintro e w2 ⟨rfl, b2⟩
    have HB2 := Lib.hid b2
    clear b2
    go_wp2_with fail
    go_ret
    exact ⟨retBl HF.out.symm, HB2.out⟩
  | true =>
    have HPt := Lib.hid (good_parts HGo.out)
    go_enter Tryd.func62, Tryd.ntmps62
    go_wp2_with fail
    refine (HG.out).mono ?_
    rintro e w2 ⟨rfl, b2⟩
    have HB2 := Lib.hid b2
    clear b2
    go_wp2_with fail
    refine (laInputs_any A n c ls 0 w2 (HH.out.below HB2.out) (by omega)).mono ?_
    rintro e w3 ⟨R3, m3, c3, rfl, o3, hm3, b3⟩
    have HB3 := Lib.hid (HB2.out.trans (b3.mono HB2.out.size))
    have HO3 := Lib.hid o3.has
    clear o3 b3
    obtain ⟨f0, hf0⟩ : ∃ b, fitB (inputsOf 0 ls) xs = b := ⟨_, rfl⟩
    have HF0 := Lib.hid hf0
    clear hf0
    go_wp2_with fail
    refine (laFit_any R3 m3 c3 (inputsOf 0 ls) Aa na ca xs f0 w3 HO3.out (HA.out.below HB3.out) (by omega) hna (fun k _ => inputs_10 HPt.out.2.1 0 k) HF0.out).mono ?_
    rintro e w4 ⟨rfl, rfl⟩
    cases f0 with
    | false =>
      have HF : Hid (askedP ls xs ys = false) := asked_a HF0.out
      go_wp2_with fail
      go_ret
      exact ⟨retBl HF.out.symm, HB3.out⟩
    | true =>
      go_wp2_with fail
      refine (laInputs_any A n c ls 1 w3 (HH.out.below HB3.out) (by omega)).mono ?_
      rintro e w5 ⟨R5, m5, c5, rfl, o5, hm5, b5⟩
      have HB5 := Lib.hid (HB3.out.trans (b5.mono HB3.out.size))
      have HO5 := Lib.hid o5.has
      clear o5 b5
      obtain ⟨f1, hf1⟩ : ∃ b, fitB (inputsOf 1 ls) ys = b := ⟨_, rfl⟩
      have HF1 := Lib.hid hf1
      clear hf1
      go_wp2_with fail
      refine (laFit_any R5 m5 c5 (inputsOf 1 ls) Ab nb cb ys f1 w5 HO5.out (HB.out.below HB5.out) (by omega) hnb (fun k _ => inputs_10 HPt.out.2.1 1 k) HF1.out).mono ?_
      rintro e w6 ⟨rfl, rfl⟩
      have HF : Hid (askedP ls xs ys = f1) := by show _ = _; rw [askedP, HGo.out, HF0.out, HF1.out]; rfl
      go_wp2_with fail
      go_ret
      exact ⟨retBl HF.out.symm, HB5.out⟩

set_option maxRecDepth 100000 in
set_option maxHeartbeats 2000000 in
theorem spec_ValuesIn (A : Option Addr) (n c : Nat) (ls : List Ln) (Aa : Option Addr) (na ca : Nat) (xs : List Int) (Ab : Option Addr) (nb cb : Nat) (ys : List Int) (rs : List Int) (rb : Bool) (w : World) (h : HasL w A n ls) (hn : n ≤ 1048576) (hnc : n ≤ c) (hz : ∀ j, j < n → FitL (lnAt ls j))
    (ha : Has w Aa na xs) (hna : na ≤ 1048576 ∧ na ≤ ca) (_hNa : NilOk Aa na ca) (hb : Has w Ab nb ys) (hnb : nb ≤ 1048576 ∧ nb ≤ cb) (_hNb : NilOk Ab nb cb) (hm : m_ValuesIn ls xs ys = (rs, rb)) :
    Calls Tryd.prog 27 #[.slice A n c, .slice Aa na ca, .slice Ab nb cb] w fun e w' => ∃ R m c', e = .returned (.tuple #[.slice R m c', .bool rb]) ∧ Has w' R m rs ∧ m ≤ 16777216 ∧ Below w.heap.size w w' := by
  have HG := Lib.hid (laAsked_any A n c ls Aa na ca xs Ab nb cb ys w h hn hnc hz ha hna.1 hb hnb.1)
  have HH := Lib.hid h
  have HZ := Lib.hid hz
  have HA := Lib.hid ha
  have HB := Lib.hid hb
  have HM := Lib.hid hm
  obtain ⟨hna1, hna2⟩ := hna
  obtain ⟨hnb1, hnb2⟩ := hnb
  clear h hz ha hb hm
  obtain ⟨b, hb⟩ : ∃ b, askedP ls xs ys = b := ⟨_, rfl⟩
  rw [hb] at HG
  have HGo := Lib.hid hb
  clear hb
  cases b with
  | false =>
    have e := HM.out
    rw [m_ValuesIn, if_neg (by rw [HGo.out]; simp)] at e
    obtain ⟨rfl, rfl⟩ := Prod.mk.inj e
    clear e
    go_enter Tryd.func27, Tryd.ntmps27
    go_wp2_with fail
    refine (HG.out).mono ?_
    rintro e w2 ⟨rfl, b2⟩
    have HB2 := Lib.hid b2
    clear b2
    go_wp2_with fail
    go_ret2
    exact ⟨none, 0, 0, rfl, Has.nil_, by omega, HB2.out⟩
  | true =>
    have e := HM.out
    rw [m_ValuesIn, if_pos HGo.out] at e
    obtain ⟨e1, rfl⟩ := Prod.mk.inj e
    have HR := Lib.hid e1
    clear e e1
    go_enter Tryd.func27, Tryd.ntmps27
    go_wp2_with fail
    refine (HG.out).mono ?_
    rintro e w2 ⟨rfl, b2⟩
    have HB2 := Lib.hid b2
    clear b2
    go_wp2_with fail
    refine (laValues_any A n c ls Aa na ca xs Ab nb cb ys w2 (HH.out.below HB2.out) hn hnc HZ.out (HA.out.below HB2.out) hna2 (HB.out.below HB2.out) hnb2 HGo.out).mono ?_
    rintro e w4 ⟨R4, c4, rfl, o4, b4⟩
    have HB4 := Lib.hid (HB2.out.trans (b4.mono HB2.out.size))
    have HO := Lib.hid o4.has
    clear o4 b4
    go_wp2_with fail
    go_ret2
    exact ⟨R4, n, c4, rfl, by rw [← HR.out]; exact HO.out, by omega, HB4.out⟩

set_option maxRecDepth 100000 in
set_option maxHeartbeats 4000000 in
theorem laRun_any (A : Option Addr) (n c : Nat) (ls : List Ln) (Aa : Option Addr) (na ca : Nat) (xs : List Int) (Ab : Option Addr) (nb cb : Nat) (ys : List Int) (w : World) (h : HasL w A n ls) (hn : n ≤ 1048576) (hnc : n ≤ c) (hz : ∀ j, j < n → FitL (lnAt ls j))
    (ha : Has w Aa na xs) (hna : na ≤ ca) (hb : Has w Ab nb ys) (hnb : nb ≤ cb) (hq : askedP ls xs ys = true) :
    Calls Tryd.prog 66 #[.slice A n c, .slice Aa na ca, .slice Ab nb cb] w fun e w' => ∃ R m c', e = .returned (.slice R m c') ∧ Own w' w.heap.size R m c' (outsOf ls (vals5 ls xs ys)) ∧ m ≤ n ∧ Below w.heap.size w w' := by
  have HW := Lib.hid (laValues_any A n c ls Aa na ca xs Ab nb cb ys w h hn hnc hz ha hna hb hnb hq)
  have HH := Lib.hid h
  have HL : Hid (ls.length = n) := h.1
  have HO : Hid (∀ W : World, Own W W.heap.size none 0 0 (outsTo ls (vals5 ls xs ys) 0)) := fun W => Own.nil_ _ _
  clear h hz ha hb hq
  go_enter Tryd.func66, Tryd.ntmps66
  go_wp2_with fail
  refine (HW.out).mono ?_
  rintro e w1 ⟨R0, c0, rfl, o0, b0⟩
  have HB0 := Lib.hid b0
  have HO0 := Lib.hid o0.has
  have s0 := b0.size
  clear HW o0 b0
  go_wp2_with fail
  go_loopw [7, 15] (fun v i wr => ∃ (k : Nat) (R : Option Addr) (m c' : Nat), k ≤ n ∧ m ≤ k ∧ i = .int .i64 k ∧ v = .slice R m c' ∧ Own wr w1.heap.size R m c' (outsTo ls (vals5 ls xs ys) k) ∧ Below w1.heap.size w1 wr) (fun _ i _ => n - (intOf i).toNat)
  case atStart => exact ⟨0, none, 0, 0, Nat.zero_le _, Nat.le_refl _, rfl, rfl, HO.out _, Below.refl _ _⟩
  case round =>
    obtain ⟨k, R, m, c', hk, hmk, rfl, rfl, ho, bk⟩ := hrel
    by_cases hlt : k < n
    · obtain ⟨ad, kd, nm, o, ps, py, wd, vl, P, q, d, rfl, hc, _, _, _, HT⟩ := ((HH.out.below HB0.out).below bk).line hlt
      obtain ⟨c0, c1, c2, c3, c4, c5, c6⟩ := hc.cells
      obtain ⟨rd, z, rfl, hcz, HZ⟩ := (HO0.out.below bk).elem hlt
      have k0 : (0 : Int) ≤ (k : Int) := by omega
      have k1 : (k : Int) < (n : Int) := by omega
      have hst := outsTo_step ls (vals5 ls xs ys) k
      rw [HT.out, ← HZ.out] at hst
      have sz := bk.size
      clear hc
      by_cases hk6 : kd = 6
      · subst hk6
        have HS : Hid (outsTo ls (vals5 ls xs ys) (k + 1) = outsTo ls (vals5 ls xs ys) k ++ [z]) := by show _ = _; rw [hst]; rfl
        clear hst
        go_wp2_with (at_builtin; refine appendInt wr rfl (.tmp 26) (.tmp 28) rfl z w1.heap.size _ m _ rfl rfl ho.2 (by omega) sz ?_; intro v3 w3 own3 b3)
        rw [← HS.out] at own3
        obtain ⟨R3, c3, rfl, ho3⟩ := ownOf own3
        go_roundw
        case rel => exact ⟨k + 1, R3, m + 1, c3, by omega, by omega, by go_num, rfl, ho3, bk.trans b3⟩
        case measure => simp [intOf]; omega
      · have HS : Hid (outsTo ls (vals5 ls xs ys) (k + 1) = outsTo ls (vals5 ls xs ys) k) := by show _ = _; rw [hst]; simp [hk6]
        have q6 : (kd == 6) = false := by simpa using hk6
        clear hst hk6
        go_wp2_with fail
        go_roundw
        case rel => exact ⟨k + 1, R, m, c', by omega, by omega, by go_num, rfl, by rw [HS.out]; exact ho, bk⟩
        case measure => simp [intOf]; omega
    · obtain rfl : k = n := by omega
      have HF : Hid (Own wr w.heap.size R m c' (outsOf ls (vals5 ls xs ys))) := by show Own _ _ _ _ _ _; rw [← outsTo_all, HL.out]; exact ho.mono s0
      have BW : Below w.heap.size w wr := HB0.out.trans (bk.mono s0)
      go_wp2_with fail
      go_ret
      exact ⟨R, m, c', rfl, HF.out, hmk, BW⟩

set_option maxRecDepth 100000 in
set_option maxHeartbeats 2000000 in
theorem spec_RunProgram (A : Option Addr) (n c : Nat) (ls : List Ln) (Aa : Option Addr) (na ca : Nat) (xs : List Int) (Ab : Option Addr) (nb cb : Nat) (ys : List Int) (rs : List Int) (rb : Bool) (w : World) (h : HasL w A n ls) (hn : n ≤ 1048576) (hnc : n ≤ c) (hz : ∀ j, j < n → FitL (lnAt ls j))
    (ha : Has w Aa na xs) (hna : na ≤ 1048576 ∧ na ≤ ca) (_hNa : NilOk Aa na ca) (hb : Has w Ab nb ys) (hnb : nb ≤ 1048576 ∧ nb ≤ cb) (_hNb : NilOk Ab nb cb) (hm : m_RunProgram ls xs ys = (rs, rb)) :
    Calls Tryd.prog 30 #[.slice A n c, .slice Aa na ca, .slice Ab nb cb] w fun e w' => ∃ R m c', e = .returned (.tuple #[.slice R m c', .bool rb]) ∧ Has w' R m rs ∧ m ≤ 16777216 ∧ Below w.heap.size w w' := by
  have HG := Lib.hid (laAsked_any A n c ls Aa na ca xs Ab nb cb ys w h hn hnc hz ha hna.1 hb hnb.1)
  have HH := Lib.hid h
  have HZ := Lib.hid hz
  have HA := Lib.hid ha
  have HB := Lib.hid hb
  have HM := Lib.hid hm
  obtain ⟨hna1, hna2⟩ := hna
  obtain ⟨hnb1, hnb2⟩ := hnb
  clear h hz ha hb hm
  obtain ⟨b, hb⟩ : ∃ b, askedP ls xs ys = b := ⟨_, rfl⟩
  rw [hb] at HG
  have HGo := Lib.hid hb
  clear hb
  cases b with
  | false =>
    have e := HM.out
    rw [m_RunProgram, if_neg (by rw [HGo.out]; simp)] at e
    obtain ⟨rfl, rfl⟩ := Prod.mk.inj e
    clear e
    go_enter Tryd.func30, Tryd.ntmps30
    go_wp2_with fail
    refine (HG.out).mono ?_
    rintro e w2 ⟨rfl, b2⟩
    have HB2 := Lib.hid b2
    clear b2
    go_wp2_with fail
    go_ret2
    exact ⟨none, 0, 0, rfl, Has.nil_, by omega, HB2.out⟩
  | true =>
    have e := HM.out
    rw [m_RunProgram, if_pos HGo.out] at e
    obtain ⟨e1, rfl⟩ := Prod.mk.inj e
    have HR := Lib.hid e1
    clear e e1
    go_enter Tryd.func30, Tryd.ntmps30
    go_wp2_with fail
    refine (HG.out).mono ?_
    rintro e w2 ⟨rfl, b2⟩
    have HB2 := Lib.hid b2
    clear b2
    go_wp2_with fail
    refine (laRun_any A n c ls Aa na ca xs Ab nb cb ys w2 (HH.out.below HB2.out) hn hnc HZ.out (HA.out.below HB2.out) hna2 (HB.out.below HB2.out) hnb2 HGo.out).mono ?_
    rintro e w4 ⟨R4, m4, c4, rfl, o4, hm4, b4⟩
    have HB4 := Lib.hid (HB2.out.trans (b4.mono HB2.out.size))
    have HO := Lib.hid o4.has
    clear o4 b4
    go_wp2_with fail
    go_ret2
    exact ⟨R4, m4, c4, rfl, by rw [← HR.out]; exact HO.out, by omega, HB4.out⟩

end Go.Proofs.YtcbofogmfelpkaaDoor
