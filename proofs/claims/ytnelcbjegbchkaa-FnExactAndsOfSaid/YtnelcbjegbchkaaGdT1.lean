/- The model multiplies: the gates and the wires. For numbers of at most 8 bits. -/
import Derived.Test.YtnelcbjegbchkaaGdG2
import Derived.Test.YtnelcbjegbchkaaCirG2
import Derived.Deep.RegionHeld3
import Derived.Deep.DeepCutAuto
namespace Go.Proofs.Ytnelcbjegbchkaa
open Go Go.RowKit
set_option maxRecDepth 100000

/-- append(row[1:], z), where row is of the call's own. -/
theorem appendSub {ops : Array Oper} {rest : List Oper} {o : Oper} {a : Act} {Q : Exit → Act → World → Prop} (w : World) (hgd : o.guard = none) (s x : Operand)
    (ho : o.op = .call { callee := .builtin .append, args := #[s, x], argTypes := #[26, 26] }) (z : Int) (g n c S : Nat) (rs : List Int) (hs : a.eval s = .slice (some ⟨g, 1, none⟩) n (c - 1))
    (hx : a.eval x = .slice (some ⟨w.heap.size, 0, none⟩) 1 1) (h : Own w S (some ⟨g, 0, none⟩) (1 + n) c rs) (hn : n ≤ 16777216) (nn : Nat) (hnn : nn = n + 1)
    (hK : ∀ A' c' w', HasI w' A' nn (rs.drop 1 ++ [z]) → Own w' S (some ⟨g, 0, none⟩) 1 c (rs.take 1) → w.grownBy w' (some g) → wpList Try.prog ops Q rest (a.put o.dst (.slice A' nn c')) w') :
    wpList Try.prog ops Q (o :: rest) a (w.alloc (.cells #[.int .i64 z] 3)) := by
  subst hnn
  obtain ⟨i0, hi, hz0, hz1, hz2⟩ := info_parts infoInt
  have b := belowNew w (.cells #[.int .i64 z] 3)
  have h' := h.below b
  have hl := h.1
  obtain ⟨xs, hx2⟩ := h'.typedI ⟨g, 0, none⟩ rfl
  have hlt := h.born ⟨g, 0, none⟩ rfl
  have hD : HasI (w.alloc (.cells #[.int .i64 z] 3)) (some ⟨g, 1, none⟩) n (rs.drop 1) := by
    by_cases h0 : n = 0
    · subst h0
      exact ⟨⟨by rw [List.length_drop, hl], fun h => absurd h (by omega)⟩, fun _ h => absurd h (by omega)⟩
    · have := h'.hasI.drop (k := 1) (by omega)
      rwa [addNone', Nat.add_sub_cancel_left] at this
  have hP : Own (w.alloc (.cells #[.int .i64 z] 3)) S (some ⟨g, 0, none⟩) 1 c (rs.take 1) := by
    refine ⟨by rw [List.length_take, hl]; omega, by rw [vals_length, List.length_take, hl]; omega, ?_⟩
    rcases h'.2.2 with ⟨hv, _⟩ | ⟨g2, cap, cur, e, hb, hg, h5, h6, h7, h8⟩
    · cases hv
    · injection e with e1 e2 e3
      refine .inr ⟨g2, cap, cur, by rw [e1, e3], hb, hg, by omega, h6, h7, ?_⟩
      have : vals (rs.take 1) = (vals rs).take 1 := by simp [vals]
      rw [this, ← h8, List.take_take]
      congr 1
      omega
  have hnew : ∀ j u, [Value.int .i64 z][j]? = some u → (w.alloc (.cells #[.int .i64 z] 3)).cell? ((⟨w.heap.size, 0, none⟩ : Addr).add j) = some u := by
    intro j u hj
    match j, hj with
    | 0, hj => simp at hj; subst hj; simp [Addr.add]
  have holds : ∀ j u, (vals (rs.drop 1))[j]? = some u → (w.alloc (.cells #[.int .i64 z] 3)).cell? ⟨g, 1 + j, none⟩ = some u := by
    intro j u hj
    have hjl : j < (rs.drop 1).length := by have := (List.getElem?_eq_some_iff.1 hj).1; rwa [vals_length] at this
    obtain ⟨ad, e, _, hc⟩ := hD.1.2 (by rw [hD.1.1] at hjl; omega)
    injection e with e
    subst e
    rw [← hj, vals_at _ _ hjl, ← addOff', hc j (by rw [hD.1.1] at hjl; exact hjl)]
  have hcap := h.capLe
  refine wpList_append_arg _ hgd s x _ ho 3 i0 (.int .i64 0) 1 8 Try.underlying26 hi hz0 hz1 hz2 rfl (by decide) g 1 n (c - 1) (vals (rs.drop 1)) hs (by rw [vals_length, List.length_drop, hl]; omega) holds ⟨w.heap.size, 0, none⟩ 1 1 [.int .i64 z] hx rfl hnew (by intro u hu; simp at hu; subst hu; rfl) ?_ (by simp only [maxLen]; omega) (by omega) ?_ ?_
  · intro hr j hj
    simp at hj
    subst hj
    rcases h'.2.2 with ⟨hv, _⟩ | ⟨g2, cap, cur, e, hb, hg, h5, h6, h7, h8⟩
    · cases hv
    · injection e with e1 e2 e3
      injection e1 with e1
      injection e1 with e1
      subst e1
      refine ⟨?_, by simp [World.frozen?, hg]⟩
      simp [World.cell?, hg]
      omega
  · intro hr
    show wpList _ _ _ _ _ ((w.alloc (.cells #[.int .i64 z] 3)).setCells g (1 + n * 1) [.int .i64 z])
    rw [show (w.alloc (.cells #[.int .i64 z] 3)).setCells g (1 + n * 1) [.int .i64 z] = (w.alloc (.cells #[.int .i64 z] 3)).setCell ⟨g, 1 + n, none⟩ (.int .i64 z) by rw [Nat.mul_one]; rfl]
    have gb : (w.alloc (.cells #[.int .i64 z] 3)).grownBy ((w.alloc (.cells #[.int .i64 z] 3)).setCell ⟨g, 1 + n, none⟩ (.int .i64 z)) (some g) := grown_setCell (World.grownBy.refl _ _) _ _
    have hP2 := hP.putR (1 + n) z
    rw [List.set_eq_of_length_le (by rw [List.length_take]; omega)] at hP2
    refine hK (some ⟨g, 1, none⟩) (c - 1) _ ⟨⟨by rw [List.length_append, hD.1.1]; rfl, fun _ => ⟨⟨g, 1, none⟩, rfl, Nat.lt_of_lt_of_le hlt.2 (Nat.le_trans b.size gb.size), fun k hk => ?_⟩⟩, fun ad _ e => ?_⟩ hP2 ((grownOf b _).trans gb)
    · rw [addOff']
      by_cases e : k = n
      · subst e
        have hb2 : Blk (w.alloc (.cells #[.int .i64 z] 3)) g xs 3 := hx2
        have hsz : 1 + k < xs.size := by
          rcases h'.2.2 with ⟨hv, _⟩ | ⟨g2, cap, cur, e, hb, hg, h5, h6, h7, h8⟩
          · cases hv
          · injection e with e1 e2 e3
            injection e1 with e1
            injection e1 with e1
            subst e1
            rw [hx2] at hg
            injection hg with hg
            injection hg with hg
            rw [hg, h7]
            omega
        rw [(hb2.set (1 + k) (.int .i64 z)).cell (i := 1 + k) (v := .int .i64 z) (by simp [hsz])]
        have e9 : (rs.drop 1 ++ [z]).getD k 0 = z := by
          have hl9 := hD.1.1
          unfold List.getD
          rw [List.getElem?_append_right (by omega), hl9]
          simp
        rw [e9]
      · have hne : (⟨g, 1 + k, none⟩ : Addr) ≠ ⟨g, 1 + n, none⟩ := by intro h; injection h with _ h; omega
        rw [World.cell?_setCell_other (h := fun h => hne h.symm)]
        obtain ⟨ad, e2, _, hc⟩ := hD.1.2 (by omega)
        injection e2 with e2
        subst e2
        rw [← addOff', hc k (by omega)]
        simp only [List.getD]
        rw [List.getElem?_append_left (by rw [hD.1.1]; omega)]
    · injection e with e
      subst e
      exact ⟨_, _, Blk.set (show Blk (w.alloc (.cells #[.int .i64 z] 3)) g xs 3 from hx2) (1 + n) (.int .i64 z)⟩
  · intro hr v' w' h1 h2
    have h1' : w'.ownsRow (w.alloc (.cells #[.int .i64 z] 3)).heap.size 3 1 v' (n + 1) (vals (rs.drop 1 ++ [z])) := by rw [vals_append]; exact h1
    obtain ⟨R, c', rfl, ho'⟩ := ownOf h1'
    exact hK R c' w' ho'.hasI (hP.below (belowOf h2)) ((grownOf (b.trans ((belowOf h2).mono b.size)) _))


/-- What the model's loop has after i rows. -/
def TimesAt (wr : World) (S N : Nat) (G : List Ga) (us vs : List Int) (m i : Nat) (ov sv : Value) (Gk : List Ga) : Prop :=
  (i = 0 ∧ ov = .slice none 0 0 ∧ sv = .slice none 0 0 ∧ Gk = G) ∨
  (i = 1 ∧ ∃ (g cR cS : Nat) (SA : Option Addr) (row : List Int), ov = .slice (some ⟨g, 0, none⟩) 1 cR ∧ sv = .slice SA (m - 1) cS ∧ Own wr S (some ⟨g, 0, none⟩) m cR row ∧ (m = 1 ∨ SA = some ⟨g, 1, none⟩ ∧ cS = cR - 1) ∧ HasI wr SA (m - 1) (row.drop 1) ∧ NilOk SA (m - 1) cS ∧ mulTo N G us vs 0 = (Gk, row.take 1, row.drop 1)) ∨
  (2 ≤ i ∧ ∃ (O SA : Option Addr) (cO cS : Nat) (low high : List Int), ov = .slice O i cO ∧ sv = .slice SA m cS ∧ Own wr S O i cO low ∧ HasI wr SA m high ∧ NilOk SA m cS ∧ mulTo N G us vs (i - 1) = (Gk, low, high))
theorem mulTo_zero (N : Nat) (G : List Ga) (us vs : List Int) : mulTo N G us vs 0 = ((eachTo (andStep N (vs.getD 0 0) us) G us.length).1, (eachTo (andStep N (vs.getD 0 0) us) G us.length).2.take 1, (eachTo (andStep N (vs.getD 0 0) us) G us.length).2.drop 1) := rfl
def mulStep (N : Nat) (us vs : List Int) (i : Nat) (s : List Ga × List Int × List Int) : List Ga × List Int × List Int :=
  let z : List Ga × List Int := if i = 0 then (s.1 ++ [(3, 0, 0), (2, ((N + s.1.length : Nat) : Int), 0)], s.2.2 ++ [((N + s.1.length + 1 : Nat) : Int)]) else (s.1, s.2.2)
  let r := eachTo (andStep N (vs.getD (i + 1) 0) us) z.1 us.length
  let o := carOuts (addStep N) r.1 z.2 r.2 us.length
  ((carTo (addStep N) r.1 z.2 r.2 us.length).1, s.2.1 ++ o.take 1, o.drop 1)
theorem mulTo_succ (N : Nat) (G : List Ga) (us vs : List Int) (i : Nat) : mulTo N G us vs (i + 1) = mulStep N us vs i (mulTo N G us vs i) := rfl
theorem mulTo_one (N : Nat) (G : List Ga) (us vs : List Int) {G0 : List Ga} {l0 h0 : List Int} (h : mulTo N G us vs 0 = (G0, l0, h0)) :
    mulTo N G us vs 1 = ((carTo (addStep N) (eachTo (andStep N (vs.getD 1 0) us) (G0 ++ [(3, 0, 0), (2, ((N + G0.length : Nat) : Int), 0)]) us.length).1 (h0 ++ [((N + G0.length + 1 : Nat) : Int)]) (eachTo (andStep N (vs.getD 1 0) us) (G0 ++ [(3, 0, 0), (2, ((N + G0.length : Nat) : Int), 0)]) us.length).2 us.length).1, l0 ++ (carOuts (addStep N) (eachTo (andStep N (vs.getD 1 0) us) (G0 ++ [(3, 0, 0), (2, ((N + G0.length : Nat) : Int), 0)]) us.length).1 (h0 ++ [((N + G0.length + 1 : Nat) : Int)]) (eachTo (andStep N (vs.getD 1 0) us) (G0 ++ [(3, 0, 0), (2, ((N + G0.length : Nat) : Int), 0)]) us.length).2 us.length).take 1, (carOuts (addStep N) (eachTo (andStep N (vs.getD 1 0) us) (G0 ++ [(3, 0, 0), (2, ((N + G0.length : Nat) : Int), 0)]) us.length).1 (h0 ++ [((N + G0.length + 1 : Nat) : Int)]) (eachTo (andStep N (vs.getD 1 0) us) (G0 ++ [(3, 0, 0), (2, ((N + G0.length : Nat) : Int), 0)]) us.length).2 us.length).drop 1) := by
  show mulTo N G us vs (0 + 1) = _
  rw [mulTo_succ, h]
  rfl
theorem mulTo_more (N : Nat) (G : List Ga) (us vs : List Int) {i : Nat} (hi : 0 < i) {G0 : List Ga} {l0 h0 : List Int} (h : mulTo N G us vs i = (G0, l0, h0)) :
    mulTo N G us vs (i + 1) = ((carTo (addStep N) (eachTo (andStep N (vs.getD (i + 1) 0) us) G0 us.length).1 h0 (eachTo (andStep N (vs.getD (i + 1) 0) us) G0 us.length).2 us.length).1, l0 ++ (carOuts (addStep N) (eachTo (andStep N (vs.getD (i + 1) 0) us) G0 us.length).1 h0 (eachTo (andStep N (vs.getD (i + 1) 0) us) G0 us.length).2 us.length).take 1, (carOuts (addStep N) (eachTo (andStep N (vs.getD (i + 1) 0) us) G0 us.length).1 h0 (eachTo (andStep N (vs.getD (i + 1) 0) us) G0 us.length).2 us.length).drop 1) := by
  rw [mulTo_succ, h]
  have hne : ¬ i = 0 := by omega
  simp only [mulStep, hne, if_false]

set_option maxRecDepth 100000 in
set_option maxHeartbeats 4000000 in
theorem gdTimes_any (q B N0 N1 : Nat) (R : Option Addr) (n c : Nat) (G : List Ga) (A : Option Addr) (m ca : Nat) (us : List Int) (A2 : Option Addr) (cb : Nat) (vs : List Int) (w : World) (hM : Mk w 136 q B N0 N1 R n c G) (h0 : N0 ≤ 1000) (h1 : N1 ≤ 1000) (hn : n ≤ 800000) (hA : HasI w A m us) (hB : HasI w A2 m vs) (m1 : 0 < m) (m8 : m ≤ 8) :
    Calls Try.prog 179 #[.pointer (some ⟨q, 0, none⟩), .slice A m ca, .slice A2 m cb] w fun e w' => ∃ (R' : Option Addr) (n' c' : Nat) (O : Option Addr) (l cO : Nat) (G' : List Ga) (lo hi : List Int), e = .returned (.slice O l cO) ∧ Hid (mulTo (N0 + N1) G us vs (m - 1) = (G', lo, hi)) ∧ Own w' w.heap.size O l cO (lo ++ hi) ∧ Mk w' 136 q B N0 N1 R' n' c' G' ∧ MkTo q w (blockOf R) w' (blockOf R') := by
  have T0 := MkTo.refl q w (blockOf R)
  have HL := Lib.hid hM.len
  have HU := Lib.hid hA.1.1
  go_enter Try.func179, Try.ntmps179
  go_wp2_with fail
  go_loopw [7, 8, 17] (fun ov sv iv wr => ∃ (i : Nat) (R' : Option Addr) (n' c' : Nat) (Gk : List Ga), i ≤ m ∧ iv = .int .i64 i ∧ n' ≤ n + 60 * i ∧ Mk wr 136 q B N0 N1 R' n' c' Gk ∧ MkTo q w (blockOf R) wr (blockOf R') ∧ TimesAt wr w.heap.size (N0 + N1) G us vs m i ov sv Gk) (fun _ _ iv _ => m - (intOf iv).toNat)
  case atStart => exact ⟨0, R, n, c, G, Nat.zero_le _, rfl, by omega, hM, T0, .inl ⟨rfl, rfl, rfl, rfl⟩⟩
  case round =>
    obtain ⟨i, R2, n2, c2, Gk, hi, rfl, hn2, M2, T2, hTi⟩ := hrel
    by_cases hlt : i < m
    · obtain ⟨bd, v, rfl, hcv, HV⟩ := (hB.to T2 hM).1.elem hlt
      have q0 : (0 : Int) ≤ (i : Int) := by omega
      have q1 : (i : Int) < (m : Int) := by omega
      have HGk := Lib.hid M2.len
      have sz2 := T2.size
      rcases hTi with ⟨rfl, rfl, rfl, rfl⟩ | ⟨rfl, g, cR, cS, SA, row, rfl, rfl, oR, hSA, hS, hnil, hmul⟩ | ⟨hi2, O, SA, cO, cS, low, high, rfl, rfl, oO, hS, hnil, hmul⟩
      · have hcv0 : wr.cell? bd = some (.int .i64 v) := by simpa [Addr.add] using hcv
        obtain ⟨wq, hwq⟩ : ∃ W, W = wr := ⟨_, rfl⟩
        have HMq : Hid (Mk wq 136 q B N0 N1 R2 n2 c2 Gk) := by show Mk _ _ _ _ _ _ _ _ _ _; rw [hwq]; exact M2
        have HAq : Hid (HasI wq A m us) := by show HasI _ _ _ _; rw [hwq]; exact hA.to T2 hM
        have TQ : MkTo q wq (blockOf R2) wr (blockOf R2) := by rw [hwq]; exact MkTo.refl _ _ _
        have szq : w.heap.size ≤ wq.heap.size := by rw [hwq]; exact sz2
        have HTq : Hid (MkTo q w (blockOf R) wq (blockOf R2)) := by show MkTo _ _ _ _ _; rw [hwq]; exact T2
        go_wp2_with fail
        go_loopw [12, 34] (fun rv jv wy => ∃ (j : Nat) (R' : Option Addr) (n' c' : Nat) (O : Option Addr) (cO : Nat) (Gj : List Ga) (oj : List Int), j ≤ m ∧ jv = .int .i64 j ∧ rv = .slice O j cO ∧ Hid (eachTo (andStep (N0 + N1) v us) Gk j = (Gj, oj)) ∧ n' ≤ n2 + j ∧ Mk wy 136 q B N0 N1 R' n' c' Gj ∧ Own wy wq.heap.size O j cO oj ∧ MkTo q wq (blockOf R2) wy (blockOf R')) (fun _ jv _ => m - (intOf jv).toNat)
        case atStart => exact ⟨0, R2, n2, _, none, 0, Gk, [], Nat.zero_le _, rfl, rfl, rfl, by omega, M2, Own.nil_ _ _, TQ⟩
        case round =>
          obtain ⟨j, R5, n5, c5, O5, cO5, Gj, oj, hj, rfl, rfl, HSj, hn5, M5, O5o, T5⟩ := hrel
          by_cases hjl : j < m
          · obtain ⟨ad, u, rfl, hcu, HUu⟩ := ((HAq.out.to T5 HMq.out)).1.elem hjl
            have q5 : (0 : Int) ≤ (j : Int) := by omega
            have q6 : (j : Int) < (m : Int) := by omega
            have HG5 := Lib.hid M5.len
            have sz5 := T5.size
            go_wp2_with fail
            refine (mkAnd_any u v q B N0 N1 _ _ _ _ _ M5 h0 h1 (by omega)).mono ?_
            rintro e w6 ⟨R6, c6, z6, rfl, hz6, M6, t6⟩
            have T6 := T5.trans t6
            have O6 := O5o.mk t6 M5
            have sz6 := T6.size
            clear t6 T5 M5 O5o
            go_wp2_with (at_builtin; refine appendIntG w6 rfl (.tmp 38) (.tmp 43) rfl z6 wq.heap.size (.slice O5 j cO5) j oj rfl rfl O6.2 (by omega) sz6 ?_; intro v7 w7 own7 b7 g7)
            rw [ownBlockOf] at g7
            obtain ⟨X7, cX7, rfl, O7⟩ := ownOf own7
            have M7 := M6.rowed O6 g7
            have T7 := T6.grown g7 O6.rowGe
            have key : Hid (eachTo (andStep (N0 + N1) v us) Gk (j + 1) = (Gj ++ [(1, u, v)], oj ++ [z6])) := by
              show _ = _
              rw [eachTo_succ, HSj.out]
              simp only [andStep]
              rw [← HUu.out, HG5.out, hz6.out]
            clear own7 b7 g7 T6 M6 O6 HSj
            go_wp2_with fail
            go_roundw
            case rel => first | exact ⟨j + 1, R6, n5 + 1, c6, X7, cX7, _, _, by omega, by go_num, rfl, key, by omega, M7, O7, T7⟩ | ((repeat apply Exists.intro); exact ⟨⟨j + 1, R6, n5 + 1, c6, X7, cX7, _, _, by omega, by go_num, rfl, key, by omega, M7, O7, T7⟩, rfl⟩)
            case measure => simp [intOf]; omega
          · obtain rfl : j = m := by omega
            have hal : us.length = j := HU.out
            obtain ⟨g, rfl⟩ := O5o.spot m1
            have hcap := O5o.capLe
            have O8 := O5o.mono szq
            have T8 := HTq.out.trans T5
            have hmul : mulTo (N0 + N1) Gk us vs 0 = (Gj, oj.take 1, oj.drop 1) := by rw [mulTo_zero, ← HV.out, hal, HSj.out]
            have HMUL := Lib.hid hmul
            clear hmul HSj T5
            have i1 : (1 : Int) ≤ (j : Int) := by omega
            have i1n : 1 ≤ j := m1
            have i2 : (1 : Int) ≤ (cO5 : Int) := by omega
            have i2n : 1 ≤ cO5 := by omega
            rcases (by omega : cO5 = 1 ∨ 1 < cO5) with rfl | hc1
            · obtain rfl : j = 1 := by omega
              have hd : oj.drop 1 = [] := List.drop_eq_nil_of_le (by rw [O8.1]; exact Nat.le_refl 1)
              have hS9 : HasI wr (some ⟨g, 0, none⟩) (1 - 1) (oj.drop 1) := by rw [hd]; exact ⟨⟨rfl, fun h => absurd h (by omega)⟩, fun _ h => absurd h (by omega)⟩
              go_wp2_with fail
              go_roundw
              case rel => first | exact ⟨1, R5, n5, c5, Gj, by omega, by go_num, by omega, M5, T8, .inr (.inl ⟨rfl, g, 1, 0, some ⟨g, 0, none⟩, oj, rfl, rfl, O8, .inl rfl, hS9, (fun h => by cases h), HMUL.out⟩)⟩ | ((repeat apply Exists.intro); exact ⟨⟨1, R5, n5, c5, Gj, by omega, by go_num, by omega, M5, T8, .inr (.inl ⟨rfl, g, 1, 0, some ⟨g, 0, none⟩, oj, rfl, rfl, O8, .inl rfl, hS9, (fun h => by cases h), HMUL.out⟩)⟩, rfl⟩)
              case measure => simp [intOf]
            · have hne : ¬ cO5 = 1 := by omega
              have hS9 : HasI wr (some ⟨g, 1, none⟩) (j - 1) (oj.drop 1) := by
                by_cases hj1 : j = 1
                · subst hj1
                  exact ⟨⟨by rw [List.length_drop, O8.1], fun h => absurd h (by omega)⟩, fun _ h => absurd h (by omega)⟩
                · have := O8.hasI.drop (k := 1) (by omega)
                  rwa [addNone'] at this
              go_wp2_with fail
              go_roundw
              case rel => first | exact ⟨1, R5, n5, c5, Gj, by omega, by go_num, by omega, M5, T8, .inr (.inl ⟨rfl, g, cO5, cO5 - 1, some ⟨g, 1, none⟩, oj, rfl, rfl, O8, .inr ⟨rfl, rfl⟩, hS9, (fun h => by cases h), HMUL.out⟩)⟩ | ((repeat apply Exists.intro); exact ⟨⟨1, R5, n5, c5, Gj, by omega, by go_num, by omega, M5, T8, .inr (.inl ⟨rfl, g, cO5, cO5 - 1, some ⟨g, 1, none⟩, oj, rfl, rfl, O8, .inr ⟨rfl, rfl⟩, hS9, (fun h => by cases h), HMUL.out⟩)⟩, rfl⟩)
              case measure => simp [intOf]; omega
      · rcases hSA with h | ⟨rfl, rfl⟩
        · exfalso; omega
        have hcv1 : wr.cell? ⟨bd.block, bd.off + 1, none⟩ = some (.int .i64 v) := by simpa [Addr.add] using hcv
        have oR2 := oR
        go_wp2_with fail
        refine (mkOne_any  q B N0 N1 _ _ _ _ _ M2 h0 h1 (by omega)).mono ?_
        rintro e w3 ⟨R3, c3, z3, rfl, hz3, M3, t3⟩
        have T3 := T2.trans t3
        have oR3 := oR2.mk t3 M2
        clear t3 T2 M2 oR2
        go_wp2_with fail
        refine (mkNot_any z3 q B N0 N1 _ _ _ _ _ M3 h0 h1 (by omega)).mono ?_
        rintro e w4 ⟨R4, c4, z4, rfl, hz4, M4, t4⟩
        have T4 := T3.trans t4
        have oR4 := oR3.mk t4 M3
        clear t4 T3 M3 oR3
        have oR4b : Own w4 w.heap.size (some ⟨g, 0, none⟩) (1 + (m - 1)) cR row := by rw [show 1 + (m - 1) = m by omega]; exact oR4
        go_wp2_with (at_builtin; refine appendSub w4 rfl (.tmp 26) (.tmp 30) rfl z4 g (m - 1) cR w.heap.size row rfl rfl oR4b (by omega) m (by omega) ?_; intro A5 cS5 w5 hS5 oP5 g5)
        have M5 := M4.rowed oR4 g5
        have T5 := T4.grown g5 (fun x e => by injection e with e; have := (oR4.born ⟨g, 0, none⟩ rfl).1; simp at this; omega)
        have eG : Gk ++ [(3, 0, 0)] ++ [(2, z3, 0)] = Gk ++ [(3, 0, 0), (2, ((N0 + N1 + Gk.length : Nat) : Int), 0)] := by rw [hz3.out, HGk.out]; simp
        have ez : z4 = ((N0 + N1 + Gk.length + 1 : Nat) : Int) := by rw [hz4.out, HGk.out]; rfl
        obtain ⟨Gq, hGq⟩ : ∃ Gq, Gq = Gk ++ [(3, 0, 0), (2, ((N0 + N1 + Gk.length : Nat) : Int), 0)] := ⟨_, rfl⟩
        rw [eG, ← hGq] at M5
        obtain ⟨hq1, hhq1⟩ : ∃ h, h = row.drop 1 ++ [z4] := ⟨_, rfl⟩
        rw [← hhq1] at hS5
        have HHQ := Lib.hid hhq1
        have HGQ := Lib.hid hGq
        have HEZ := Lib.hid ez
        have HMUL := Lib.hid hmul
        clear g5 oR4b oR4 M4 T4 eG ez hGq hhq1 hmul oR hS
        obtain ⟨wq, hwq⟩ : ∃ W, W = w5 := ⟨_, rfl⟩
        have HMq : Hid (Mk wq 136 q B N0 N1 R4 (n2 + 1 + 1) c4 Gq) := by show Mk _ _ _ _ _ _ _ _ _ _; rw [hwq]; exact M5
        have HAq : Hid (HasI wq A m us) := by show HasI _ _ _ _; rw [hwq]; exact hA.to T5 hM
        have TQ : MkTo q wq (blockOf R4) w5 (blockOf R4) := by rw [hwq]; exact MkTo.refl _ _ _
        have szq : w.heap.size ≤ wq.heap.size := by rw [hwq]; exact T5.size
        have HTq : Hid (MkTo q w (blockOf R) wq (blockOf R4)) := by show MkTo _ _ _ _ _; rw [hwq]; exact T5
        have HOq : Hid (Own wq w.heap.size (some ⟨g, 0, none⟩) 1 cR (row.take 1)) := by show Own _ _ _ _ _ _; rw [hwq]; exact oP5
        have HSq : Hid (HasI wq A5 m hq1) := by show HasI _ _ _ _; rw [hwq]; exact hS5
        clear hS5 oP5 T5
        have hcv5 := hcv
        clear hcv5
        go_wp2_with fail
        go_loopw [12, 34] (fun rv jv wy => ∃ (j : Nat) (R' : Option Addr) (n' c' : Nat) (O : Option Addr) (cO : Nat) (Gj : List Ga) (oj : List Int), j ≤ m ∧ jv = .int .i64 j ∧ rv = .slice O j cO ∧ Hid (eachTo (andStep (N0 + N1) v us) Gq j = (Gj, oj)) ∧ n' ≤ (n2 + 1 + 1) + j ∧ Mk wy 136 q B N0 N1 R' n' c' Gj ∧ Own wy wq.heap.size O j cO oj ∧ MkTo q wq (blockOf R4) wy (blockOf R')) (fun _ jv _ => m - (intOf jv).toNat)
        case atStart => exact ⟨0, R4, (n2 + 1 + 1), _, none, 0, Gq, [], Nat.zero_le _, rfl, rfl, rfl, by omega, M5, Own.nil_ _ _, TQ⟩
        case round =>
          obtain ⟨j, R5, n5, c5, O5, cO5, Gj, oj, hj, rfl, rfl, HSj, hn5, M5, O5o, T5⟩ := hrel
          by_cases hjl : j < m
          · obtain ⟨ad, u, rfl, hcu, HUu⟩ := ((HAq.out.to T5 HMq.out)).1.elem hjl
            have q5 : (0 : Int) ≤ (j : Int) := by omega
            have q6 : (j : Int) < (m : Int) := by omega
            have HG5 := Lib.hid M5.len
            have sz5 := T5.size
            go_wp2_with fail
            refine (mkAnd_any u v q B N0 N1 _ _ _ _ _ M5 h0 h1 (by omega)).mono ?_
            rintro e w6 ⟨R6, c6, z6, rfl, hz6, M6, t6⟩
            have T6 := T5.trans t6
            have O6 := O5o.mk t6 M5
            have sz6 := T6.size
            clear t6 T5 M5 O5o
            go_wp2_with (at_builtin; refine appendIntG w6 rfl (.tmp 38) (.tmp 43) rfl z6 wq.heap.size (.slice O5 j cO5) j oj rfl rfl O6.2 (by omega) sz6 ?_; intro v7 w7 own7 b7 g7)
            rw [ownBlockOf] at g7
            obtain ⟨X7, cX7, rfl, O7⟩ := ownOf own7
            have M7 := M6.rowed O6 g7
            have T7 := T6.grown g7 O6.rowGe
            have key : Hid (eachTo (andStep (N0 + N1) v us) Gq (j + 1) = (Gj ++ [(1, u, v)], oj ++ [z6])) := by
              show _ = _
              rw [eachTo_succ, HSj.out]
              simp only [andStep]
              rw [← HUu.out, HG5.out, hz6.out]
            clear own7 b7 g7 T6 M6 O6 HSj
            go_wp2_with fail
            go_roundw
            case rel => first | exact ⟨j + 1, R6, n5 + 1, c6, X7, cX7, _, _, by omega, by go_num, rfl, key, by omega, M7, O7, T7⟩ | ((repeat apply Exists.intro); exact ⟨⟨j + 1, R6, n5 + 1, c6, X7, cX7, _, _, by omega, by go_num, rfl, key, by omega, M7, O7, T7⟩, rfl⟩)
            case measure => simp [intOf]; omega
          · obtain rfl : j = m := by omega
            have hal : us.length = j := HU.out
            have S8 := HSq.out.mk T5 HMq.out
            have P8 := HOq.out.mk T5 HMq.out
            have T8a := HTq.out.trans T5
            have HG8 := Lib.hid M5.len
            clear HSq HOq
            have O5i := O5o.hasI
            go_wp2_with fail
            refine (gdAdd_any q B N0 N1 R5 n5 c5 Gj A5 j cS5 hq1 O5 j cO5 oj wr M5 h0 h1 (by omega) S8 O5i (Nat.le_refl _) m1 (by omega)).mono ?_
            rintro e w8 ⟨R8, n8, c8, O8, d8, rfl, o8, M8, t8⟩
            have P9 := P8.mk t8 M5
            have T8 := T8a.trans t8
            have n8b : n8 ≤ n5 + 6 * j := by have h5 := M8.len; have h6 := carTo_gates (addSteps (N0 + N1)) Gj hq1 oj j; have := HG8.out; omega
            obtain ⟨g8, rfl⟩ := o8.spot (Nat.succ_pos j)
            have cap8 := o8.capLe
            have sz8 := t8.size
            have szr := T5.size
            obtain ⟨cs, hcs⟩ : ∃ cs, carOuts (addStep (N0 + N1)) Gj hq1 oj j = cs := ⟨_, rfl⟩
            rw [hcs] at o8
            have HCS := Lib.hid hcs
            obtain ⟨x0, hx0⟩ : ∃ x0, cs.getD 0 0 = x0 := ⟨_, rfl⟩
            have HKc : Hid (∀ W', Below w8.heap.size w8 W' → W'.cell? ⟨g8, 0, none⟩ = some (.int .i64 x0)) := fun W' hb => by have := (o8.below hb).cellR (k := 0) (Nat.succ_pos j); rw [hx0] at this; exact this
            have HL1 : Hid (∀ W', Below w8.heap.size w8 W' → Calls Try.prog 210 #[.slice (some ⟨g, 0, none⟩) 1 cR] W' fun e w' => ∃ R c', e = .returned (.slice R 1 c') ∧ Own w' W'.heap.size R 1 c' (row.take 1) ∧ Below W'.heap.size W' w') := fun W' hb => l1Own_all (some ⟨g, 0, none⟩) 1 cR (row.take 1) W' (P9.has.below hb) (by omega) (own_nilOk P9)
            have e1 : cs.take 1 = [x0] := by
              have hl := o8.1
              cases cs with
              | nil => simp at hl
              | cons x xs => simp at hx0; simp [hx0]
            have HE1 := Lib.hid e1
            have D8 : Below w8.heap.size w8 w8.drew := (Below.refl _ w8).drew
            have lg8 : g8 < w8.heap.size := (o8.born ⟨g8, 0, none⟩ rfl).2
            clear hcs hx0 e1 P8 T8a S8 O5i
            go_wp2_with fail
            have E8 : Below w8.heap.size w8 (w8.alloc (.cells #[.int .i64 x0] 3)).drew := (belowNew w8 (.cells #[.int .i64 x0] 3)).drew
            have yl := (Blk.new w8 #[.int .i64 x0] 3)
            have HYL : Hid (∀ W', Below (w8.alloc (.cells #[.int .i64 x0] 3)).drew.heap.size (w8.alloc (.cells #[.int .i64 x0] 3)).drew W' → W'.cell? ⟨w8.heap.size, 0, none⟩ = some (.int .i64 x0)) := fun W' hb => (Blk.below' (show Blk (w8.alloc (.cells #[.int .i64 x0] 3)).drew w8.heap.size #[.int .i64 x0] 3 from yl) hb).cell (i := 0) rfl
            clear yl
            first | (go_region_held3 (fun w' => w'.cell? ⟨g8, 0, none⟩ = some (.int .i64 x0)) (first | exact HKc.out _ D8 | exact HKc.out _ E8 | exact HKc.out _ Bq | exact HKc.out _ (Bq.trans ((belowNew w9 (.cells #[.int .i64 x0] 3)).mono Bq.size)) | exact HKc.out _ Br | go_keep) (first | (go_at_call 210; refine call_eq (args1 := #[.slice (some ⟨g, 0, none⟩) 1 cR]) (w1 := w8.drew) (by with_reducible rfl) (by with_reducible rfl) ?_; refine Calls.mono (HL1.out _ D8) ?_; rintro e w9 ⟨R9, c9, rfl, o9, b9⟩; have Bq := D8.trans (b9.mono D8.size)) | (go_at_call 210; refine call_eq (args1 := #[.slice (some ⟨g, 0, none⟩) 1 cR]) (w1 := (w8.alloc (.cells #[.int .i64 x0] 3)).drew) (by with_reducible rfl) (by with_reducible rfl) ?_; refine Calls.mono (HL1.out _ E8) ?_; rintro e w9 ⟨R9, c9, rfl, o9, b9⟩; have Bq := E8.trans (b9.mono E8.size)) | (refine stepInt (w9.alloc (.cells #[.int .i64 x0] 3)) rfl (.tmp 57) (.tmp 61) rfl x0 w8.heap.size _ 1 (row.take 1) w9.heap.size (by simp [Act.eval]) (by simp [Act.eval]) ((Blk.new w9 #[.int .i64 x0] 3).cell (i := 0) rfl) ((o9.below (belowNew w9 (.cells #[.int .i64 x0] 3))).mono D8.size).2 (by omega) (Nat.le_trans Bq.size (belowNew w9 (.cells #[.int .i64 x0] 3)).size) ?_; intro gA cA wA ownA bA; have Br := (Bq.trans ((belowNew w9 (.cells #[.int .i64 x0] 3)).mono Bq.size)).trans bA) | (refine stepInt w9 rfl (.tmp 57) (.tmp 61) rfl x0 w8.heap.size _ 1 (row.take 1) w8.heap.size (by simp [Act.eval]) (by simp [Act.eval]) (HYL.out _ b9) (o9.mono E8.size).2 (by omega) Bq.size ?_; intro gA cA wA ownA bA; have Br := Bq.trans bA))) | fail
            all_goals
              have B10 := Br
              have M10 := M8.below B10
              have T10 := T8.next B10
              have szT := T8.size
              have OA := ownA.mono szT
              have S9 : HasI wA (some ⟨g8, 1, none⟩) j (cs.drop 1) := by
                have := (o8.below B10).hasI.drop (k := 1) (by omega)
                rwa [addNone', Nat.add_sub_cancel] at this
              have i81 : (1 : Int) ≤ (j : Int) + 1 := by omega
              have i82 : (1 : Int) ≤ (d8 : Int) := by omega
              have i83 : 1 < d8 := by omega
              have i84 : ¬ d8 = 1 := by omega
              have i85 : 1 ≤ j + 1 := by omega
              have i86 : 1 ≤ d8 := by omega
              have HNEW : Hid (mulTo (N0 + N1) G us vs (2 - 1) = ((carTo (addStep (N0 + N1)) Gj hq1 oj j).1, row.take 1 ++ [x0], cs.drop 1)) := by
                show mulTo (N0 + N1) G us vs 1 = _
                have e5 : row.drop 1 ++ [((N0 + N1 + Gk.length + 1 : Nat) : Int)] = hq1 := by rw [HHQ.out, HEZ.out]
                rw [mulTo_one _ _ _ _ HMUL.out, ← HV.out, hal, ← HGQ.out, HSj.out]
                simp only
                rw [e5, HCS.out, HE1.out]
              clear Br bA ownA B10 M8 T8 HKc HL1 HYL o9 b9 Bq
              go_wp2_with fail
              go_roundw
              case rel => first | exact ⟨2, R8, n8, c8, _, by omega, by go_num, by omega, M10, T10, .inr (.inr ⟨by omega, some ⟨gA, 0, none⟩, some ⟨g8, 1, none⟩, cA, d8 - 1, _, _, rfl, rfl, OA, S9, (fun h => by cases h), HNEW.out⟩)⟩ | ((repeat apply Exists.intro); exact ⟨⟨2, R8, n8, c8, _, by omega, by go_num, by omega, M10, T10, .inr (.inr ⟨by omega, some ⟨gA, 0, none⟩, some ⟨g8, 1, none⟩, cA, d8 - 1, _, _, rfl, rfl, OA, S9, (fun h => by cases h), HNEW.out⟩)⟩, rfl⟩)
              case measure => simp [intOf]; omega
      · have hi1 : ¬ i = 1 := by omega
        have hi0 : ¬ i = 0 := by omega
        have hi1b : (((i : Nat) : Int) == 1) = false := by simp; omega
        have hi0b : (((i : Nat) : Int) == 0) = false := by simp; omega
        have HMUL := Lib.hid hmul
        clear hmul
        obtain ⟨wq, hwq⟩ : ∃ W, W = wr := ⟨_, rfl⟩
        have HMq : Hid (Mk wq 136 q B N0 N1 R2 n2 c2 Gk) := by show Mk _ _ _ _ _ _ _ _ _ _; rw [hwq]; exact M2
        have HAq : Hid (HasI wq A m us) := by show HasI _ _ _ _; rw [hwq]; exact hA.to T2 hM
        have TQ : MkTo q wq (blockOf R2) wr (blockOf R2) := by rw [hwq]; exact MkTo.refl _ _ _
        have szq : w.heap.size ≤ wq.heap.size := by rw [hwq]; exact T2.size
        have HTq : Hid (MkTo q w (blockOf R) wq (blockOf R2)) := by show MkTo _ _ _ _ _; rw [hwq]; exact T2
        have HOq : Hid (Own wq w.heap.size O i cO low) := by show Own _ _ _ _ _ _; rw [hwq]; exact oO
        have HSq : Hid (HasI wq SA m high) := by show HasI _ _ _ _; rw [hwq]; exact hS
        clear hS oO T2 hnil
        go_wp2_with fail
        go_loopw [12, 34] (fun rv jv wy => ∃ (j : Nat) (R' : Option Addr) (n' c' : Nat) (O : Option Addr) (cO : Nat) (Gj : List Ga) (oj : List Int), j ≤ m ∧ jv = .int .i64 j ∧ rv = .slice O j cO ∧ Hid (eachTo (andStep (N0 + N1) v us) Gk j = (Gj, oj)) ∧ n' ≤ n2 + j ∧ Mk wy 136 q B N0 N1 R' n' c' Gj ∧ Own wy wq.heap.size O j cO oj ∧ MkTo q wq (blockOf R2) wy (blockOf R')) (fun _ jv _ => m - (intOf jv).toNat)
        case atStart => exact ⟨0, R2, n2, _, none, 0, Gk, [], Nat.zero_le _, rfl, rfl, rfl, by omega, M2, Own.nil_ _ _, TQ⟩
        case round =>
          obtain ⟨j, R5, n5, c5, O5, cO5, Gj, oj, hj, rfl, rfl, HSj, hn5, M5, O5o, T5⟩ := hrel
          by_cases hjl : j < m
          · obtain ⟨ad, u, rfl, hcu, HUu⟩ := ((HAq.out.to T5 HMq.out)).1.elem hjl
            have q5 : (0 : Int) ≤ (j : Int) := by omega
            have q6 : (j : Int) < (m : Int) := by omega
            have HG5 := Lib.hid M5.len
            have sz5 := T5.size
            go_wp2_with fail
            refine (mkAnd_any u v q B N0 N1 _ _ _ _ _ M5 h0 h1 (by omega)).mono ?_
            rintro e w6 ⟨R6, c6, z6, rfl, hz6, M6, t6⟩
            have T6 := T5.trans t6
            have O6 := O5o.mk t6 M5
            have sz6 := T6.size
            clear t6 T5 M5 O5o
            go_wp2_with (at_builtin; refine appendIntG w6 rfl (.tmp 38) (.tmp 43) rfl z6 wq.heap.size (.slice O5 j cO5) j oj rfl rfl O6.2 (by omega) sz6 ?_; intro v7 w7 own7 b7 g7)
            rw [ownBlockOf] at g7
            obtain ⟨X7, cX7, rfl, O7⟩ := ownOf own7
            have M7 := M6.rowed O6 g7
            have T7 := T6.grown g7 O6.rowGe
            have key : Hid (eachTo (andStep (N0 + N1) v us) Gk (j + 1) = (Gj ++ [(1, u, v)], oj ++ [z6])) := by
              show _ = _
              rw [eachTo_succ, HSj.out]
              simp only [andStep]
              rw [← HUu.out, HG5.out, hz6.out]
            clear own7 b7 g7 T6 M6 O6 HSj
            go_wp2_with fail
            go_roundw
            case rel => first | exact ⟨j + 1, R6, n5 + 1, c6, X7, cX7, _, _, by omega, by go_num, rfl, key, by omega, M7, O7, T7⟩ | ((repeat apply Exists.intro); exact ⟨⟨j + 1, R6, n5 + 1, c6, X7, cX7, _, _, by omega, by go_num, rfl, key, by omega, M7, O7, T7⟩, rfl⟩)
            case measure => simp [intOf]; omega
          · obtain rfl : j = m := by omega
            have hal : us.length = j := HU.out
            have S8 := HSq.out.mk T5 HMq.out
            have P8 := HOq.out.mk T5 HMq.out
            have T8a := HTq.out.trans T5
            have HG8 := Lib.hid M5.len
            clear HSq HOq
            have O5i := O5o.hasI
            go_wp2_with fail
            refine (gdAdd_any q B N0 N1 R5 n5 c5 Gj SA j cS high O5 j cO5 oj wr M5 h0 h1 (by omega) S8 O5i (Nat.le_refl _) m1 (by omega)).mono ?_
            rintro e w8 ⟨R8, n8, c8, O8, d8, rfl, o8, M8, t8⟩
            have P9 := P8.mk t8 M5
            have T8 := T8a.trans t8
            have n8b : n8 ≤ n5 + 6 * j := by have h5 := M8.len; have h6 := carTo_gates (addSteps (N0 + N1)) Gj high oj j; have := HG8.out; omega
            obtain ⟨g8, rfl⟩ := o8.spot (Nat.succ_pos j)
            have cap8 := o8.capLe
            have sz8 := t8.size
            have szr := T5.size
            obtain ⟨cs, hcs⟩ : ∃ cs, carOuts (addStep (N0 + N1)) Gj high oj j = cs := ⟨_, rfl⟩
            rw [hcs] at o8
            have HCS := Lib.hid hcs
            obtain ⟨x0, hx0⟩ : ∃ x0, cs.getD 0 0 = x0 := ⟨_, rfl⟩
            have HKc : Hid (∀ W', Below w8.heap.size w8 W' → W'.cell? ⟨g8, 0, none⟩ = some (.int .i64 x0)) := fun W' hb => by have := (o8.below hb).cellR (k := 0) (Nat.succ_pos j); rw [hx0] at this; exact this
            have HL1 : Hid (∀ W', Below w8.heap.size w8 W' → Calls Try.prog 210 #[.slice O i cO] W' fun e w' => ∃ R c', e = .returned (.slice R i c') ∧ Own w' W'.heap.size R i c' low ∧ Below W'.heap.size W' w') := fun W' hb => l1Own_all O i cO low W' (P9.has.below hb) (by omega) (own_nilOk P9)
            have e1 : cs.take 1 = [x0] := by
              have hl := o8.1
              cases cs with
              | nil => simp at hl
              | cons x xs => simp at hx0; simp [hx0]
            have HE1 := Lib.hid e1
            have D8 : Below w8.heap.size w8 w8.drew := (Below.refl _ w8).drew
            have lg8 : g8 < w8.heap.size := (o8.born ⟨g8, 0, none⟩ rfl).2
            clear hcs hx0 e1 P8 T8a S8 O5i
            go_wp2_with fail
            have E8 : Below w8.heap.size w8 (w8.alloc (.cells #[.int .i64 x0] 3)).drew := (belowNew w8 (.cells #[.int .i64 x0] 3)).drew
            have yl := (Blk.new w8 #[.int .i64 x0] 3)
            have HYL : Hid (∀ W', Below (w8.alloc (.cells #[.int .i64 x0] 3)).drew.heap.size (w8.alloc (.cells #[.int .i64 x0] 3)).drew W' → W'.cell? ⟨w8.heap.size, 0, none⟩ = some (.int .i64 x0)) := fun W' hb => (Blk.below' (show Blk (w8.alloc (.cells #[.int .i64 x0] 3)).drew w8.heap.size #[.int .i64 x0] 3 from yl) hb).cell (i := 0) rfl
            clear yl
            first | (go_region_held3 (fun w' => w'.cell? ⟨g8, 0, none⟩ = some (.int .i64 x0)) (first | exact HKc.out _ D8 | exact HKc.out _ E8 | exact HKc.out _ Bq | exact HKc.out _ (Bq.trans ((belowNew w9 (.cells #[.int .i64 x0] 3)).mono Bq.size)) | exact HKc.out _ Br | go_keep) (first | (go_at_call 210; refine call_eq (args1 := #[.slice O i cO]) (w1 := w8.drew) (by with_reducible rfl) (by with_reducible rfl) ?_; refine Calls.mono (HL1.out _ D8) ?_; rintro e w9 ⟨R9, c9, rfl, o9, b9⟩; have Bq := D8.trans (b9.mono D8.size)) | (go_at_call 210; refine call_eq (args1 := #[.slice O i cO]) (w1 := (w8.alloc (.cells #[.int .i64 x0] 3)).drew) (by with_reducible rfl) (by with_reducible rfl) ?_; refine Calls.mono (HL1.out _ E8) ?_; rintro e w9 ⟨R9, c9, rfl, o9, b9⟩; have Bq := E8.trans (b9.mono E8.size)) | (refine stepInt (w9.alloc (.cells #[.int .i64 x0] 3)) rfl (.tmp 57) (.tmp 61) rfl x0 w8.heap.size _ i low w9.heap.size (by simp [Act.eval]) (by simp [Act.eval]) ((Blk.new w9 #[.int .i64 x0] 3).cell (i := 0) rfl) ((o9.below (belowNew w9 (.cells #[.int .i64 x0] 3))).mono D8.size).2 (by omega) (Nat.le_trans Bq.size (belowNew w9 (.cells #[.int .i64 x0] 3)).size) ?_; intro gA cA wA ownA bA; have Br := (Bq.trans ((belowNew w9 (.cells #[.int .i64 x0] 3)).mono Bq.size)).trans bA) | (refine stepInt w9 rfl (.tmp 57) (.tmp 61) rfl x0 w8.heap.size _ i low w8.heap.size (by simp [Act.eval]) (by simp [Act.eval]) (HYL.out _ b9) (o9.mono E8.size).2 (by omega) Bq.size ?_; intro gA cA wA ownA bA; have Br := Bq.trans bA))) | fail
            all_goals
              have B10 := Br
              have M10 := M8.below B10
              have T10 := T8.next B10
              have szT := T8.size
              have OA := ownA.mono szT
              have S9 : HasI wA (some ⟨g8, 1, none⟩) j (cs.drop 1) := by
                have := (o8.below B10).hasI.drop (k := 1) (by omega)
                rwa [addNone', Nat.add_sub_cancel] at this
              have i81 : (1 : Int) ≤ (j : Int) + 1 := by omega
              have i82 : (1 : Int) ≤ (d8 : Int) := by omega
              have i83 : 1 < d8 := by omega
              have i84 : ¬ d8 = 1 := by omega
              have i85 : 1 ≤ j + 1 := by omega
              have i86 : 1 ≤ d8 := by omega
              have HNEW : Hid (mulTo (N0 + N1) G us vs (i + 1 - 1) = ((carTo (addStep (N0 + N1)) Gj high oj j).1, low ++ [x0], cs.drop 1)) := by
                show mulTo (N0 + N1) G us vs (i + 1 - 1) = _
                have e6 : i + 1 - 1 = (i - 1) + 1 := by omega
                have e7 : i - 1 + 1 = i := by omega
                rw [e6, mulTo_more _ _ _ _ (by omega) HMUL.out, e7, ← HV.out, hal, HSj.out]
                simp only
                rw [HCS.out, HE1.out]
              clear Br bA ownA B10 M8 T8 HKc HL1 HYL o9 b9 Bq
              go_wp2_with fail
              go_roundw
              case rel => first | exact ⟨i + 1, R8, n8, c8, _, by omega, by go_num, by omega, M10, T10, .inr (.inr ⟨by omega, some ⟨gA, 0, none⟩, some ⟨g8, 1, none⟩, cA, d8 - 1, _, _, rfl, rfl, OA, S9, (fun h => by cases h), HNEW.out⟩)⟩ | ((repeat apply Exists.intro); exact ⟨⟨i + 1, R8, n8, c8, _, by omega, by go_num, by omega, M10, T10, .inr (.inr ⟨by omega, some ⟨gA, 0, none⟩, some ⟨g8, 1, none⟩, cA, d8 - 1, _, _, rfl, rfl, OA, S9, (fun h => by cases h), HNEW.out⟩)⟩, rfl⟩)
              case measure => simp [intOf]; omega
    · obtain rfl : i = m := by omega
      rcases hTi with ⟨rfl, _, _, _⟩ | ⟨rfl, g, cR, cS, SA, row, rfl, rfl, oR, hSA, hS, hnil, hmul⟩ | ⟨hi2, O, SA, cO, cS, low, high, rfl, rfl, oO, hS, hnil, hmul⟩
      · omega
      · have HJ := Lib.hid (ciJoin_any (some ⟨g, 0, none⟩) 1 cR _ SA (1 - 1) cS _ wr oR.has (by omega) (own_nilOk oR) hS.1 (by omega) hnil)
        have e1 : row.take 1 = row := List.take_of_length_le (by rw [oR.1]; exact Nat.le_refl 1)
        have HMUL := Lib.hid hmul
        have sz := T2.size
        clear hmul oR hS hSA
        go_wp2_with fail
        refine (HJ.out).mono ?_
        rintro e w9 ⟨O9, c9, rfl, o9, b9⟩
        go_wp2_with fail
        go_ret
        refine ⟨R2, n2, c2, O9, _, c9, Gk, row.take 1, row.drop 1, rfl, HMUL.out, ?_, M2.below b9, T2.next b9⟩
        rw [e1]
        exact o9.mono sz
      · have HJ := Lib.hid (ciJoin_any O i cO _ SA i cS _ wr oO.has (by omega) (own_nilOk oO) hS.1 (by omega) hnil)
        have HMUL := Lib.hid hmul
        have sz := T2.size
        clear hmul oO hS
        go_wp2_with fail
        refine (HJ.out).mono ?_
        rintro e w9 ⟨O9, c9, rfl, o9, b9⟩
        go_wp2_with fail
        go_ret
        exact ⟨R2, n2, c2, O9, _, c9, Gk, low, high, rfl, HMUL.out, o9.mono sz, M2.below b9, T2.next b9⟩

end Go.Proofs.Ytnelcbjegbchkaa
