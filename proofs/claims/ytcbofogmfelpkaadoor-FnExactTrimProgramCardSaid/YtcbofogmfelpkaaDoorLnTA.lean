/- Several texts in one: LnT1, LnT2, LnT3. What each says stands at its head. -/
import Derived.Test.YtcbofogmfelpkaaDoorLnNA

/- Appends of strings and of lines to rows of the call's own; copies of strings and of a line. For at most 16777216 of them. -/
namespace Go.Proofs.YtcbofogmfelpkaaDoor
open Go Go.RowKit
set_option maxRecDepth 100000


theorem HasS.news {w : World} {ad : Addr} {m : Nat} {ts : List ByteArray} (h : HasS w (some ad) m ts) : ∀ (j : Nat) (u : Value), (ts.map Value.string)[j]? = some u → w.cell? (ad.add j) = some u := by
  intro j u hj
  have hlt : j < ts.length := by
    have := (List.getElem?_eq_some_iff.1 hj).1
    simpa using this
  obtain ⟨ad', e, _, hc⟩ := h.2 (by have := h.1; omega)
  obtain rfl := Option.some.inj e
  rw [hc j (by have := h.1; omega), ← hj]
  simp [wordAt, List.getD_eq_getElem?_getD, List.getElem?_eq_getElem hlt]
theorem strings_one (ts : List ByteArray) : ∀ u ∈ ts.map Value.string, u.oneCell' = true := by
  intro u hu
  obtain ⟨t, _, rfl⟩ := List.mem_map.1 hu
  rfl

theorem strsOnto {ops : Array Oper} {rest : List Oper} {o : Oper} {a : Act} {Q : Exit → Act → World → Prop} (w : World) (hgd : o.guard = none) (s x : Operand)
    (ho : o.op = .call { callee := .builtin .append, args := #[s, x], argTypes := #[43, 43] }) (S : Nat) (v : Value) (B : Option Addr) (n m c : Nat) (zs ys : List ByteArray) (hs : a.eval s = v) (hv : Strs w S v n zs)
    (hx : a.eval x = .slice B m c) (hnil : B = none → m = 0 ∧ c = 0) (hB : HasS w B m ys) (hn : n ≤ 16777216) (hm : m ≤ 16777216) (hS : S ≤ w.heap.size)
    (h : ∀ R' c' w', Strs w' S (.slice R' (n + m) c') (n + m) (zs ++ ys) → Below S w w' → wpList Tryd.prog ops Q rest (a.put o.dst (.slice R' (n + m) c')) w') :
    wpList Tryd.prog ops Q (o :: rest) a w := by
  obtain ⟨i0, hi, hz0, hz1, hz2⟩ := info_parts infoStr
  have hlt := hv.2.lt
  cases B with
  | none =>
    obtain ⟨rfl, rfl⟩ := hnil rfl
    have e : ys = [] := List.length_eq_zero_iff.1 hB.1
    subst e
    refine wpList_append_own_none hgd s x _ ho S 9 i0 1 Tryd.underlying43 hi v n (zs.map Value.string) hs hv.2 hx ?_
    obtain ⟨R, c, rfl, hv'⟩ := strsOf hv
    have := h R c w (by simpa using hv') (Below.refl _ _)
    exact this
  | some ad =>
    refine wpList_append_own w hgd s x _ ho S 9 i0 (.string ByteArray.empty) 1 16 Tryd.underlying43 hi hz0 hz1 hz2 rfl (by decide) v n (zs.map Value.string) hs hv.2 ad m c (ys.map Value.string) hx (by simp [hB.1]) hB.news (strings_one ys) (by simp only [maxLen]; omega) (by omega) hS ?_
    intro v' w' h2 h3 _
    have h4 : Strs w' S v' (n + m) (zs ++ ys) := ⟨by simp [hv.1, hB.1], by rw [List.map_append]; exact h2⟩
    obtain ⟨R', c', rfl, h5⟩ := strsOf h4
    exact h R' c' w' h5 ((Below.refl S w).grown h3 hS fun k hk => (hlt k hk).1)

theorem lnCells_one (x : Ln) (P : Option Addr) (m d : Nat) : ∀ u ∈ lnCells x P m d, u.oneCell' = true := by
  intro u hu
  simp only [lnCells, List.mem_cons, List.not_mem_nil, or_false] at hu
  rcases hu with rfl | rfl | rfl | rfl | rfl | rfl | rfl <;> rfl

/-- One line is appended; its parts lie in a row of the call's own that is younger than the row's. -/
theorem lineOnto {ops : Array Oper} {rest : List Oper} {o : Oper} {a : Act} {Q : Exit → Act → World → Prop} (W : World) (hgd : o.guard = none) (s x : Operand)
    (ho : o.op = .call { callee := .builtin .append, args := #[s, x], argTypes := #[25, 25] }) (y : Ln) (P : Option Addr) (m d B T : Nat) (A : Option Addr) (n c : Nat) (ls : List Ln) (F : Nat → Option Addr × Nat × Nat) (q : Nat)
    (hs : a.eval s = .slice A n c) (hx : a.eval x = .slice (some ⟨q, 0, none⟩) 1 1) (hc : ∀ i v, (lnCells y P m d)[i]? = some v → W.cell? ⟨q, i, none⟩ = some v)
    (hown : OwnL W B T A n c ls F) (hp : Strs W B (.slice P m d) m y.parts) (hP : ∀ ad : Addr, P = some ad → T ≤ ad.block) (hn : n ≤ 16777216) (hT : T ≤ W.heap.size) (hB : B ≤ W.heap.size)
    (h : ∀ A' c' F' w', OwnL w' B w'.heap.size A' (n + 1) c' (ls ++ [y]) F' → Below B W w' → wpList Tryd.prog ops Q rest (a.put o.dst (.slice A' (n + 1) c')) w') :
    wpList Tryd.prog ops Q (o :: rest) a W := by
  obtain ⟨i0, hi, hz0, hz1, hz2⟩ := info_parts infoLine
  obtain ⟨vs, h1, h2⟩ := hown.row
  have hlt := h1.lt
  have hl : vs.length = n * 7 := h1.1
  refine wpList_append_own W hgd s x _ ho B 53 i0 _ 7 88 Tryd.underlying25 hi hz0 hz1 hz2 rfl (by decide) (.slice A n c) n vs hs h1 ⟨q, 0, none⟩ 1 1 (lnCells y P m d) hx rfl ?_ (lnCells_one y P m d) (by simp only [maxLen]; omega) (by omega) hB ?_
  · intro j u hj
    rw [addNone']
    exact hc j u hj
  · intro v' w' g1 g2 _
    obtain ⟨A', c', rfl⟩ : ∃ A' c', v' = .slice A' (n + 1) c' := by
      rcases g1.2 with ⟨_, h0⟩ | ⟨g, cap, cur, e, _⟩
      · omega
      · exact ⟨_, cap, e⟩
    refine h A' c' (fun k => if k = n then (P, m, d) else F k) w' ⟨by simp [hown.len], ⟨_, g1, fun k hk i hi7 => ?_⟩, fun k hk => ?_, ?_, fun k hk ad e => ?_, fun j k hjk hk a1 b1 e1 e2 => ?_⟩ ((Below.refl B W).grown g2 hB (fun k hk => (hlt k hk).1))
    · by_cases e : k = n
      · subst e
        rw [if_pos rfl, List.getElem?_append_right (by omega), hl, show k * 7 + i - k * 7 = i by omega]
        simp [lnAt, List.getD_eq_getElem?_getD, ← hown.len]
      · rw [if_neg e, List.getElem?_append_left (by omega), h2 k (by omega) i hi7]
        simp [lnAt, List.getD_eq_getElem?_getD, List.getElem?_append_left (show k < ls.length by have := hown.len; omega)]
    · by_cases e : k = n
      · subst e
        rw [if_pos rfl]
        have e2 : lnAt (ls ++ [y]) k = y := by simp [lnAt, List.getD_eq_getElem?_getD, ← hown.len]
        rw [e2]
        exact hp.kept g2 (fun ad e3 e4 => by cases A with
          | none => cases e4
          | some a2 => exact rowApart h1 hp a2 ad rfl e3 (by injection e4 with e5; exact e5.symm))
      · rw [if_neg e]
        have e2 : lnAt (ls ++ [y]) k = lnAt ls k := by simp [lnAt, List.getD_eq_getElem?_getD, List.getElem?_append_left (show k < ls.length by have := hown.len; omega)]
        rw [e2]
        exact (hown.parts k (by omega)).kept g2 (fun ad e3 e4 => by cases A with
          | none => cases e4
          | some a2 => exact rowApart h1 (hown.parts k (by omega)) a2 ad rfl e3 (by injection e4 with e5; exact e5.symm))
    · intro ad e
      subst e
      exact (g1.lt ad.block rfl).2
    · by_cases e3 : k = n
      · subst e3
        rw [if_pos rfl] at e
        exact Nat.lt_of_lt_of_le (hp.born ad e).2 g2.size
      · rw [if_neg e3] at e
        exact Nat.lt_of_lt_of_le (hown.low k (by omega) ad e) (Nat.le_trans hT g2.size)
    · rw [if_neg (show ¬ j = n by omega)] at e1
      by_cases e3 : k = n
      · subst e3
        rw [if_pos rfl] at e2
        have := hown.low j (by omega) a1 e1
        have := hP b1 e2
        omega
      · rw [if_neg e3] at e2
        exact hown.apart j k hjk (by omega) a1 b1 e1 e2

set_option maxHeartbeats 2000000 in
theorem l1OwnS_any (A : Option Addr) (n c : Nat) (zs : List ByteArray) (w : World) (h : HasS w A n zs) (hn : n ≤ 16777216) (hnil : NilOk A n c) :
    Calls Tryd.prog 69 #[.slice A n c] w fun e w' => ∃ R c', e = .returned (.slice R n c') ∧ Strs w' w.heap.size (.slice R n c') n zs ∧ Below w.heap.size w w' := by
  have hB1 := belowNew w (.cells #[] 9)
  have own0 : Strs (w.alloc (.cells #[] 9)) w.heap.size (.slice (some ⟨w.heap.size, 0, none⟩) 0 0) 0 [] := ⟨rfl, World.ownsRow_lit w #[] 0 (Nat.le_refl _) (Nat.zero_le _) rfl⟩
  have hT := h.below hB1
  go_enter Tryd.func69, Tryd.ntmps69
  go_wp2_with (at_builtin; refine strsOnto _ rfl (.tmp 3) (.tmp 4) rfl w.heap.size _ A 0 n c [] zs rfl own0 rfl hnil hT (by omega) (by omega) hB1.size ?_; intro R1 c1 w1 own1 b1; rw [Nat.zero_add, List.nil_append] at own1; rw [Nat.zero_add])
  go_ret
  exact ⟨R1, c1, rfl, own1, hB1.trans b1⟩

set_option maxHeartbeats 2000000 in
theorem copiedLine_any (kd : Int) (nm o : ByteArray) (ps : List ByteArray) (py wd vl : Int) (P : Option Addr) (m d : Nat) (w : World) (h : HasS w P m ps) (hn : m ≤ 16777216) (hnil : NilOk P m d) :
    Calls Tryd.prog 70 #[.agg #[.int .i64 kd, .string nm, .string o, .slice P m d, .int .i64 py, .int .i64 wd, .int .i64 vl]] w fun e w' => ∃ R c', e = .returned (.agg #[.int .i64 kd, .string nm, .string o, .slice R m c', .int .i64 py, .int .i64 wd, .int .i64 vl]) ∧ Strs w' w.heap.size (.slice R m c') m ps ∧ Below w.heap.size w w' := by
  obtain ⟨W1, hW1⟩ : ∃ W, W = w.alloc (.cells #[.int .i64 kd, .string nm, .string o, .slice P m d, .int .i64 py, .int .i64 wd, .int .i64 vl] 53) := ⟨_, rfl⟩
  obtain ⟨W2, hW2⟩ : ∃ W, W = W1.alloc (.cells #[.int .i64 0, .string ⟨#[]⟩, .string ⟨#[]⟩, .slice none 0 0, .int .i64 0, .int .i64 0, .int .i64 0] 53) := ⟨_, rfl⟩
  have s1 : W1.heap.size = w.heap.size + 1 := by rw [hW1]; simp
  have s2 : W2.heap.size = w.heap.size + 1 + 1 := by rw [hW2]; simp [s1]
  have p0 : Blk W2 w.heap.size #[.int .i64 kd, .string nm, .string o, .slice P m d, .int .i64 py, .int .i64 wd, .int .i64 vl] 53 := by rw [hW2, hW1]; exact (Blk.new _ _ _).alloc _
  have p1 : Blk W2 (w.heap.size + 1) #[.int .i64 0, .string ⟨#[]⟩, .string ⟨#[]⟩, .slice none 0 0, .int .i64 0, .int .i64 0, .int .i64 0] 53 := by rw [hW2]; exact Blk.newAt _ _ _ s1.symm
  have B2 : Below w.heap.size w W2 := by rw [hW2, hW1]; exact ((Below.refl _ w).alloc (Nat.le_refl _) _).alloc (by simp) _
  have HS := Lib.hid (h.below B2)
  have HP0 := Lib.hid p0
  have HP1 := Lib.hid p1
  have HB2 := Lib.hid B2
  have l2 : w.heap.size + 1 < W2.heap.size := by omega
  have HW : Hid ((w.alloc (.cells #[.int .i64 kd, .string nm, .string o, .slice P m d, .int .i64 py, .int .i64 wd, .int .i64 vl] 53)).alloc (.cells #[.int .i64 0, .string ⟨#[]⟩, .string ⟨#[]⟩, .slice none 0 0, .int .i64 0, .int .i64 0, .int .i64 0] 53) = W2) := by show _ = _; rw [hW2, hW1]
  clear h p0 p1 B2 s1 s2 hW2 hW1
  go_enter Tryd.func70, Tryd.ntmps70
  go_wp2_with (at_builtin; rw [HW.out]; refine strsOnto _ rfl _ _ rfl W2.heap.size (.slice none 0 0) P 0 m d [] ps rfl (Strs.nil_ _ _) rfl hnil HS.out (by omega) hn (Nat.le_refl _) ?_; intro R cR w1 oG b1; rw [Nat.zero_add, List.nil_append] at oG; rw [Nat.zero_add]; obtain ⟨⟨c00, c01, c02, c03, c04, c05, c06⟩, f00, f01, f02, f03, f04, f05, f06⟩ := (HP0.out.below' b1).seven; obtain ⟨⟨c10, c11, c12, c13, c14, c15, c16⟩, f10, f11, f12, f13, f14, f15, f16⟩ := (HP1.out.below' b1).seven; have HO := Lib.hid oG; have HBb := Lib.hid b1; clear oG b1)
  have oG := HO.out
  have b1 := HBb.out
  have B4 := HB2.out.trans (b1.mono HB2.out.size)
  have q1 := HP1.out.below' b1
  have t1 := B4.size
  have t2 := b1.size
  obtain ⟨W5, hW5⟩ : ∃ W, W = w1.setCell ⟨w.heap.size, 3, none⟩ (.slice R m cR) := ⟨_, rfl⟩
  rw [← hW5]
  have g5 : w1.grownBy W5 (some w.heap.size) := by rw [hW5]; exact grown_setCell (World.grownBy.refl _ _) _ _
  have r1 := q1.grown g5 (by simp)
  have B5 : Below w.heap.size w W5 := B4.grown g5 (by omega) (fun k hk => by simp at hk; omega)
  have o5 := oG.kept g5 (fun ad e => by have := (oG.born ad e).1; simp; omega)
  have t5 := g5.size
  obtain ⟨W8, hW8⟩ : ∃ W, W = ((((((W5.setCell ⟨w.heap.size + 1, 0, none⟩ (.int .i64 kd)).setCell ⟨w.heap.size + 1, 1, none⟩ (.string nm)).setCell ⟨w.heap.size + 1, 2, none⟩ (.string o)).setCell ⟨w.heap.size + 1, 3, none⟩ (.slice R m cR)).setCell ⟨w.heap.size + 1, 4, none⟩ (.int .i64 py)).setCell ⟨w.heap.size + 1, 5, none⟩ (.int .i64 wd)).setCell ⟨w.heap.size + 1, 6, none⟩ (.int .i64 vl) := ⟨_, rfl⟩
  rw [← hW8]
  have g8 : W5.grownBy W8 (some (w.heap.size + 1)) := by rw [hW8]; exact grown_setCell (grown_setCell (grown_setCell (grown_setCell (grown_setCell (grown_setCell (grown_setCell (World.grownBy.refl _ _) _ _) _ _) _ _) _ _) _ _) _ _) _ _
  have v8 : Blk W8 (w.heap.size + 1) #[.int .i64 kd, .string nm, .string o, .slice R m cR, .int .i64 py, .int .i64 wd, .int .i64 vl] 53 := by rw [hW8]; exact ((((((r1.set 0 _).set 1 _).set 2 _).set 3 _).set 4 _).set 5 _).set 6 _
  have B8 : Below w.heap.size w W8 := B5.grown g8 (by omega) (fun k hk => by simp at hk; omega)
  have o8 := o5.kept g8 (fun ad e => by have := (o5.born ad e).1; simp; omega)
  obtain ⟨⟨e0, e1, e2, e3, e4, e5, e6⟩, _⟩ := v8.seven
  refine bodyPost_ret (v := .agg #[.int .i64 kd, .string nm, .string o, .slice R m cR, .int .i64 py, .int .i64 wd, .int .i64 vl]) (by simp [results, Tryd.results70, go_sem, e0, e1, e2, e3, e4, e5, e6]) rfl ⟨_, _, rfl, o8.mono (by omega), B8⟩

end Go.Proofs.YtcbofogmfelpkaaDoor

/- TrimProgram, both sides. For lists of at most 1048576 lines. -/
namespace Go.Proofs.YtcbofogmfelpkaaDoor
open Go Go.RowKit
set_option maxRecDepth 100000


def keptB (ls : List Ln) (j : Nat) : Bool := needB ls j || decide ((lnAt ls j).kind = 1)
/-- The lines among the first k that are kept. -/
def keptTo (ls : List Ln) (k : Nat) : List Ln := ((List.range k).filter (keptB ls)).map (lnAt ls)
def m_TrimProgram (ls : List Ln) : List Ln × Bool := if goodP ls = true then (keptTo ls ls.length, true) else ([], false)
theorem keptTo_step (ls : List Ln) (k : Nat) : keptTo ls (k + 1) = keptTo ls k ++ (if keptB ls k = true then [lnAt ls k] else []) := by
  rw [keptTo, List.range_succ, List.filter_append, List.map_append]
  congr 1
  by_cases h : keptB ls k = true
  · rw [if_pos h, List.filter_cons_of_pos h]; rfl
  · rw [if_neg h, List.filter_cons_of_neg h]; rfl
theorem kept_three {ls : List Ln} (hl : ls.all lineOk = true) (j : Nat) : (lnAt (keptTo ls ls.length) j).parts.length ≤ 3 := by
  by_cases hj : j < (keptTo ls ls.length).length
  · have e : lnAt (keptTo ls ls.length) j ∈ keptTo ls ls.length := by
      simp [lnAt, List.getD_eq_getElem?_getD, List.getElem?_eq_getElem hj]
    rw [keptTo, List.mem_map] at e
    obtain ⟨i, hi, e2⟩ := e
    have hi' := List.mem_range.1 (List.mem_filter.1 hi).1
    have e3 : lnAt (keptTo ls ls.length) j = lnAt ls i := e2.symm
    rw [e3]
    exact parts_three hl hi'
  · have e : lnAt (keptTo ls ls.length) j = ln0 := by simp [lnAt, List.getD_eq_getElem?_getD, List.getElem?_eq_none (Nat.le_of_not_lt hj)]
    rw [e]
    decide

set_option maxRecDepth 100000 in
set_option maxHeartbeats 2000000 in
theorem impl_TrimProgram (A : Option Addr) (n c : Nat) (ls : List Ln) (rp : List Ln) (rb : Bool) (w : World) (h : HasL w A n ls) (hn : n ≤ 1048576) (_hnc : n ≤ c) (hz : ∀ j, j < n → FitL (lnAt ls j)) (hF : Forms w) (hW : OpWords w) (hm : m_TrimProgram ls = (rp, rb)) :
    Calls Tryd.prog 38 #[.slice A n c] w fun e w' => ∃ R m c' F, e = .returned (.tuple #[.slice R m c', .bool rb]) ∧ OwnL w' w.heap.size w'.heap.size R m c' rp F ∧ m ≤ 1048576 ∧ (∀ j, (lnAt rp j).parts.length ≤ 3) ∧ Below w.heap.size w w' := by
  have HG := Lib.hid (implIsProgram_any A n c ls w h hn hz hF hW)
  rw [good_same] at HG
  have HH := Lib.hid h
  have HL : Hid (ls.length = n) := h.1
  have HM := Lib.hid hm
  clear h hz hm hF hW
  obtain ⟨b, hb⟩ : ∃ b, goodP ls = b := ⟨_, rfl⟩
  rw [hb] at HG
  have HGo := Lib.hid hb
  clear hb
  cases b with
  | false =>
    have e := HM.out
    rw [m_TrimProgram, if_neg (by rw [HGo.out]; simp)] at e
    obtain ⟨rfl, rfl⟩ := Prod.mk.inj e
    clear e
    go_enter Tryd.func38, Tryd.ntmps38
    go_wp2_with fail
    refine (HG.out).mono ?_
    rintro e w2 ⟨rfl, b2⟩
    have HB2 := Lib.hid b2
    clear b2
    go_wp2_with fail
    go_ret2
    exact ⟨none, 0, 0, fun _ => (none, 0, 0), rfl, OwnL.nil_ _ _ _, by omega, fun j => by simp [lnAt, ln0], HB2.out⟩
  | true =>
    have e := HM.out
    rw [m_TrimProgram, if_pos HGo.out] at e
    obtain ⟨e1, rfl⟩ := Prod.mk.inj e
    have HR := Lib.hid e1
    clear e e1
    have HQ := Lib.hid (good_parts HGo.out)
    have n30 : n ≤ 30 := by have := HQ.out.1; have := HL.out; omega
    go_enter Tryd.func38, Tryd.ntmps38
    go_wp2_with fail
    refine (HG.out).mono ?_
    rintro e w2 ⟨rfl, b2⟩
    have HB2 := Lib.hid b2
    clear b2
    go_wp2_with fail
    refine (callsIn_wide.1 (neededLines_in A n c ls w2 (HH.out.below HB2.out) hn HGo.out)).mono ?_
    rintro e w3 ⟨gb, rfl, r3, b3⟩
    have HB3 := Lib.hid (HB2.out.trans (b3.mono HB2.out.size))
    have HR3 := Lib.hid r3
    have HO : Hid (OwnL w3 w3.heap.size w3.heap.size none 0 0 (keptTo ls 0) (fun _ => (none, 0, 0))) := OwnL.nil_ _ _ _
    have s3 := HB3.out.size
    clear r3 b3
    go_wp2_with fail
    go_loopw [4, 13] (fun v i wr => ∃ (k : Nat) (R : Option Addr) (m c' : Nat) (F : Nat → Option Addr × Nat × Nat), k ≤ n ∧ m ≤ k ∧ i = .int .i64 k ∧ v = .slice R m c' ∧ Hid (OwnL wr w3.heap.size wr.heap.size R m c' (keptTo ls k) F) ∧ Below w3.heap.size w3 wr) (fun _ i _ => n - (intOf i).toNat)
    case atStart => exact ⟨0, none, 0, 0, _, Nat.zero_le _, Nat.le_refl _, rfl, rfl, HO, Below.refl _ _⟩
    case round =>
      obtain ⟨k, R, m, c', F, hk, hmk, rfl, rfl, HOk, bk⟩ := hrel
      by_cases hlt : k < n
      · obtain ⟨ad, kd, nm, o, ps, py, wd, vl, P, q, d, rfl, hc, hp, _, hnil, HT⟩ := ((HH.out.below HB3.out).below bk).line hlt
        obtain ⟨c0, c1, c2, c3, c4, c5, c6⟩ := hc.cells
        have hcb := (HR3.out.below bk).cell hlt
        have k0 : (0 : Int) ≤ (k : Int) := by omega
        have k1 : (k : Int) < (n : Int) := by omega
        have hq3 : q ≤ 3 := by
          have h1 := parts_three HQ.out.2.1 (k := k) (by rw [HL.out]; exact hlt)
          rw [HT.out] at h1
          have h2 := hp.1
          simp only at h1
          omega
        have hst := keptTo_step ls k
        rw [keptB, HT.out] at hst
        simp only at hst
        obtain ⟨bn, hbn⟩ : ∃ b, needB ls k = b := ⟨_, rfl⟩
        rw [hbn] at hcb hst
        have sz := bk.size
        have BK := Lib.hid bk
        have HP := Lib.hid hp
        clear hc hbn bk hp
        cases bn with
        | true =>
          have HS : Hid (keptTo ls (k + 1) = keptTo ls k ++ [⟨kd, nm, o, ps, py, wd, vl⟩]) := by show _ = _; rw [hst]; simp
          have HCo := Lib.hid (copiedLine_any kd nm o ps py wd vl P q d wr HP.out (by omega) hnil)
          clear hst
          go_wp2_with fail
          refine (HCo.out).mono ?_
          rintro e w5 ⟨R5, d5, rfl, hs5, b5⟩
          have b6 := belowNew w5 (.cells #[.int .i64 kd, .string nm, .string o, .slice R5 q d5, .int .i64 py, .int .i64 wd, .int .i64 vl] 53)
          have HY := Lib.hid (Blk.new w5 #[.int .i64 kd, .string nm, .string o, .slice R5 q d5, .int .i64 py, .int .i64 wd, .int .i64 vl] 53)
          have HP5 : Hid (∀ ad : Addr, R5 = some ad → wr.heap.size ≤ ad.block) := fun ad e => (hs5.born ad e).1
          have HO5 := Lib.hid ((HOk.out.below b5).below b6)
          have HS5 := Lib.hid ((hs5.below b6).mono sz)
          have s5 := b5.size
          have s6 := b6.size
          have HB6 := Lib.hid (BK.out.trans ((b5.mono sz).trans (b6.mono (Nat.le_trans sz s5))))
          clear hs5 b5 b6
          go_wp2_with (at_builtin; refine lineOnto _ rfl _ _ rfl ⟨kd, nm, o, ps, py, wd, vl⟩ R5 q d5 w3.heap.size wr.heap.size R m c' (keptTo ls k) F w5.heap.size rfl rfl (fun i v hv => HY.out.cell (i := i) (by simpa [lnCells] using hv)) HO5.out HS5.out HP5.out (by omega) (Nat.le_trans s5 s6) (Nat.le_trans sz (Nat.le_trans s5 s6)) ?_; intro A7 c7 F7 w7 O7 b7; have HO7 := Lib.hid O7; have HB7 := Lib.hid b7; clear O7 b7)
          go_roundw
          case rel => exact ⟨k + 1, A7, m + 1, c7, F7, by omega, by omega, by go_num, rfl, by rw [HS.out]; exact HO7, HB6.out.trans HB7.out⟩
          case measure => simp [intOf]; omega
        | false =>
          by_cases hk1 : kd = 1
          · subst hk1
            have HS : Hid (keptTo ls (k + 1) = keptTo ls k ++ [⟨1, nm, o, ps, py, wd, vl⟩]) := by show _ = _; rw [hst]; simp
            have HCo := Lib.hid (copiedLine_any 1 nm o ps py wd vl P q d wr HP.out (by omega) hnil)
            clear hst
            go_wp2_with fail
            refine (HCo.out).mono ?_
            rintro e w5 ⟨R5, d5, rfl, hs5, b5⟩
            have b6 := belowNew w5 (.cells #[.int .i64 1, .string nm, .string o, .slice R5 q d5, .int .i64 py, .int .i64 wd, .int .i64 vl] 53)
            have HY := Lib.hid (Blk.new w5 #[.int .i64 1, .string nm, .string o, .slice R5 q d5, .int .i64 py, .int .i64 wd, .int .i64 vl] 53)
            have HP5 : Hid (∀ ad : Addr, R5 = some ad → wr.heap.size ≤ ad.block) := fun ad e => (hs5.born ad e).1
            have HO5 := Lib.hid ((HOk.out.below b5).below b6)
            have HS5 := Lib.hid ((hs5.below b6).mono sz)
            have s5 := b5.size
            have s6 := b6.size
            have HB6 := Lib.hid (BK.out.trans ((b5.mono sz).trans (b6.mono (Nat.le_trans sz s5))))
            clear hs5 b5 b6
            go_wp2_with (at_builtin; refine lineOnto _ rfl _ _ rfl ⟨1, nm, o, ps, py, wd, vl⟩ R5 q d5 w3.heap.size wr.heap.size R m c' (keptTo ls k) F w5.heap.size rfl rfl (fun i v hv => HY.out.cell (i := i) (by simpa [lnCells] using hv)) HO5.out HS5.out HP5.out (by omega) (Nat.le_trans s5 s6) (Nat.le_trans sz (Nat.le_trans s5 s6)) ?_; intro A7 c7 F7 w7 O7 b7; have HO7 := Lib.hid O7; have HB7 := Lib.hid b7; clear O7 b7)
            go_roundw
            case rel => exact ⟨k + 1, A7, m + 1, c7, F7, by omega, by omega, by go_num, rfl, by rw [HS.out]; exact HO7, HB6.out.trans HB7.out⟩
            case measure => simp [intOf]; omega
          · have HS : Hid (keptTo ls (k + 1) = keptTo ls k) := by show _ = _; rw [hst]; simp [hk1]
            clear hst
            go_wp2_with fail
            go_roundw
            case rel => exact ⟨k + 1, R, m, c', F, by omega, by omega, by go_num, rfl, by rw [HS.out]; exact HOk, BK.out⟩
            case measure => simp [intOf]; omega
      · obtain rfl : k = n := by omega
        have HF : Hid (OwnL wr w.heap.size wr.heap.size R m c' rp F) := by show OwnL _ _ _ _ _ _ _ _; rw [← HR.out, HL.out]; exact HOk.out.mono s3 (Nat.le_refl _)
        have H3 : Hid (∀ j, (lnAt rp j).parts.length ≤ 3) := fun j => by rw [← HR.out]; exact kept_three HQ.out.2.1 j
        have BW : Hid (Below w.heap.size w wr) := HB3.out.trans (bk.mono s3)
        clear bk
        go_wp2_with fail
        go_ret2
        exact ⟨R, m, c', F, rfl, HF.out, by omega, H3.out, BW.out⟩

end Go.Proofs.YtcbofogmfelpkaaDoor

/- TrimProgram, the model's function. For lists of at most 1048576 lines. -/
namespace Go.Proofs.YtcbofogmfelpkaaDoor
open Go Go.RowKit
set_option maxRecDepth 100000


set_option maxRecDepth 100000 in
set_option maxHeartbeats 2000000 in
theorem spec_TrimProgram (A : Option Addr) (n c : Nat) (ls : List Ln) (rp : List Ln) (rb : Bool) (w : World) (h : HasL w A n ls) (hn : n ≤ 1048576) (hnc : n ≤ c) (hz : ∀ j, j < n → FitL (lnAt ls j)) (hm : m_TrimProgram ls = (rp, rb)) :
    Calls Tryd.prog 37 #[.slice A n c] w fun e w' => ∃ R m c' F, e = .returned (.tuple #[.slice R m c', .bool rb]) ∧ OwnL w' w.heap.size w'.heap.size R m c' rp F ∧ m ≤ 1048576 ∧ (∀ j, (lnAt rp j).parts.length ≤ 3) ∧ Below w.heap.size w w' := by
  have HG := Lib.hid (laGood_any A n c ls w h hn hnc hz)
  have HH := Lib.hid h
  have HL : Hid (ls.length = n) := h.1
  have HM := Lib.hid hm
  clear h hz hm
  obtain ⟨b, hb⟩ : ∃ b, goodP ls = b := ⟨_, rfl⟩
  rw [hb] at HG
  have HGo := Lib.hid hb
  clear hb
  cases b with
  | false =>
    have e := HM.out
    rw [m_TrimProgram, if_neg (by rw [HGo.out]; simp)] at e
    obtain ⟨rfl, rfl⟩ := Prod.mk.inj e
    clear e
    go_enter Tryd.func37, Tryd.ntmps37
    go_wp2_with fail
    refine (HG.out).mono ?_
    rintro e w2 ⟨rfl, b2⟩
    have HB2 := Lib.hid b2
    clear b2
    go_wp2_with fail
    go_ret2
    exact ⟨none, 0, 0, fun _ => (none, 0, 0), rfl, OwnL.nil_ _ _ _, by omega, fun j => by simp [lnAt, ln0], HB2.out⟩
  | true =>
    have e := HM.out
    rw [m_TrimProgram, if_pos HGo.out] at e
    obtain ⟨e1, rfl⟩ := Prod.mk.inj e
    have HR := Lib.hid e1
    clear e e1
    have HQ := Lib.hid (good_parts HGo.out)
    have n30 : n ≤ 30 := by have := HQ.out.1; have := HL.out; omega
    go_enter Tryd.func37, Tryd.ntmps37
    go_wp2_with fail
    refine (HG.out).mono ?_
    rintro e w2 ⟨rfl, b2⟩
    have HB2 := Lib.hid b2
    clear b2
    go_wp2_with fail
    refine (laNeeded_any A n c ls w2 (HH.out.below HB2.out) hn HGo.out).mono ?_
    rintro e w3 ⟨rfl, r3, b3⟩
    have HB3 := Lib.hid (HB2.out.trans (b3.mono HB2.out.size))
    have HR3 := Lib.hid r3
    have HO : Hid (OwnL w3 w3.heap.size w3.heap.size none 0 0 (keptTo ls 0) (fun _ => (none, 0, 0))) := OwnL.nil_ _ _ _
    have s3 := HB3.out.size
    clear r3 b3
    go_wp2_with fail
    go_loopw [4, 14] (fun v i wr => ∃ (k : Nat) (R : Option Addr) (m c' : Nat) (F : Nat → Option Addr × Nat × Nat), k ≤ n ∧ m ≤ k ∧ i = .int .i64 k ∧ v = .slice R m c' ∧ Hid (OwnL wr w3.heap.size wr.heap.size R m c' (keptTo ls k) F) ∧ Below w3.heap.size w3 wr) (fun _ i _ => n - (intOf i).toNat)
    case atStart => exact ⟨0, none, 0, 0, _, Nat.zero_le _, Nat.le_refl _, rfl, rfl, HO, Below.refl _ _⟩
    case round =>
      obtain ⟨k, R, m, c', F, hk, hmk, rfl, rfl, HOk, bk⟩ := hrel
      by_cases hlt : k < n
      · obtain ⟨ad, kd, nm, o, ps, py, wd, vl, P, q, d, rfl, hc, hp, _, hnil, HT⟩ := ((HH.out.below HB3.out).below bk).line hlt
        obtain ⟨c0, c1, c2, c3, c4, c5, c6⟩ := hc.cells
        have hcb := (HR3.out.below bk).cell hlt
        have k0 : (0 : Int) ≤ (k : Int) := by omega
        have k1 : (k : Int) < (n : Int) := by omega
        have hq3 : q ≤ 3 := by
          have h1 := parts_three HQ.out.2.1 (k := k) (by rw [HL.out]; exact hlt)
          rw [HT.out] at h1
          have h2 := hp.1
          simp only at h1
          omega
        have hst := keptTo_step ls k
        rw [keptB, HT.out] at hst
        simp only at hst
        obtain ⟨bn, hbn⟩ : ∃ b, needB ls k = b := ⟨_, rfl⟩
        rw [hbn] at hcb hst
        have sz := bk.size
        have BK := Lib.hid bk
        have HP := Lib.hid hp
        clear hc hbn bk hp
        cases bn with
        | true =>
          have HS : Hid (keptTo ls (k + 1) = keptTo ls k ++ [⟨kd, nm, o, ps, py, wd, vl⟩]) := by show _ = _; rw [hst]; simp
          have b4 := belowNew wr (.cells #[.int .i64 kd, .string nm, .string o, .slice P q d, .int .i64 py, .int .i64 wd, .int .i64 vl] 53)
          have y4 := Blk.new wr #[.int .i64 kd, .string nm, .string o, .slice P q d, .int .i64 py, .int .i64 wd, .int .i64 vl] 53
          obtain ⟨W4, hW4⟩ : ∃ W, W = wr.alloc (.cells #[.int .i64 kd, .string nm, .string o, .slice P q d, .int .i64 py, .int .i64 wd, .int .i64 vl] 53) := ⟨_, rfl⟩
          rw [← hW4] at b4 y4
          have HCo := Lib.hid (l1OwnS_any P q d ps W4 (HP.out.below b4) (by omega) hnil)
          have s4 : wr.heap.size < W4.heap.size := y4.lt
          have HB4 := Lib.hid b4
          have HY4 := Lib.hid y4
          clear hst b4 y4
          go_wp2_with fail
          rw [← hW4]
          clear hW4
          refine (HCo.out).mono ?_
          rintro e w5 ⟨R5, d5, rfl, hs5, b5⟩
          have y5 := HY4.out.below' b5
          obtain ⟨⟨d0, d1, d2, d3, d4, d51, d6⟩, f0, f1, f2, f3, f4, f5, f6⟩ := y5.seven
          obtain ⟨W6, hW6⟩ : ∃ W, w5.setCell ⟨wr.heap.size, 3, none⟩ (.slice R5 q d5) = W := ⟨_, rfl⟩
          have g6 : w5.grownBy W6 (some wr.heap.size) := by rw [← hW6]; exact grown_setCell (World.grownBy.refl _ _) _ _
          have b6 := belowNew W6 (.cells #[.int .i64 kd, .string nm, .string o, .slice R5 q d5, .int .i64 py, .int .i64 wd, .int .i64 vl] 53)
          have hq6 : W6.heap.size = w5.heap.size := by rw [← hW6]; simp
          have HY : Hid (∀ i v, (lnCells ⟨kd, nm, o, ps, py, wd, vl⟩ R5 q d5)[i]? = some v → (W6.alloc (.cells #[.int .i64 kd, .string nm, .string o, .slice R5 q d5, .int .i64 py, .int .i64 wd, .int .i64 vl] 53)).cell? ⟨w5.heap.size, i, none⟩ = some v) := fun i v hv => by
            rw [← hq6]
            exact (Blk.new W6 #[.int .i64 kd, .string nm, .string o, .slice R5 q d5, .int .i64 py, .int .i64 wd, .int .i64 vl] 53).cell (i := i) (by simpa [lnCells] using hv)
          have HP5 : Hid (∀ ad : Addr, R5 = some ad → wr.heap.size ≤ ad.block) := fun ad e => Nat.le_trans (Nat.le_of_lt s4) (hs5.born ad e).1
          have b45 : Below wr.heap.size wr w5 := HB4.out.trans (b5.mono (Nat.le_of_lt s4))
          have b46 : Below wr.heap.size wr W6 := b45.grown g6 b45.size (fun k hk => by cases hk; exact Nat.le_refl _)
          have HO5 := Lib.hid ((HOk.out.below b46).below b6)
          have HS5 := Lib.hid (((hs5.kept g6 (fun ad e => by have := (hs5.born ad e).1; simp; omega)).below b6).mono (Nat.le_trans sz (Nat.le_of_lt s4)))
          have s5 := b46.size
          have s6 := b6.size
          have HB6 := Lib.hid (BK.out.trans ((b46.mono sz).trans (b6.mono (Nat.le_trans sz s5))))
          have HW6 := Lib.hid hW6
          clear hs5 b5 b6 y5 g6 b45 b46 hW6 hq6
          go_wp2_with (at_builtin; rw [HW6.out]; refine lineOnto _ rfl _ _ rfl ⟨kd, nm, o, ps, py, wd, vl⟩ R5 q d5 w3.heap.size wr.heap.size R m c' (keptTo ls k) F w5.heap.size rfl rfl HY.out HO5.out HS5.out HP5.out (by omega) (Nat.le_trans s5 s6) (Nat.le_trans sz (Nat.le_trans s5 s6)) ?_; intro A7 c7 F7 w7 O7 b7; have HO7 := Lib.hid O7; have HB7 := Lib.hid b7; clear O7 b7)
          go_roundw
          case rel => exact ⟨k + 1, A7, m + 1, c7, F7, by omega, by omega, by go_num, rfl, by rw [HS.out]; exact HO7, HB6.out.trans HB7.out⟩
          case measure => simp [intOf]; omega
        | false =>
          by_cases hk1 : kd = 1
          · subst hk1
            have HS : Hid (keptTo ls (k + 1) = keptTo ls k ++ [⟨1, nm, o, ps, py, wd, vl⟩]) := by show _ = _; rw [hst]; simp
            have b4 := belowNew wr (.cells #[.int .i64 1, .string nm, .string o, .slice P q d, .int .i64 py, .int .i64 wd, .int .i64 vl] 53)
            have y4 := Blk.new wr #[.int .i64 1, .string nm, .string o, .slice P q d, .int .i64 py, .int .i64 wd, .int .i64 vl] 53
            obtain ⟨W4, hW4⟩ : ∃ W, W = wr.alloc (.cells #[.int .i64 1, .string nm, .string o, .slice P q d, .int .i64 py, .int .i64 wd, .int .i64 vl] 53) := ⟨_, rfl⟩
            rw [← hW4] at b4 y4
            have HCo := Lib.hid (l1OwnS_any P q d ps W4 (HP.out.below b4) (by omega) hnil)
            have s4 : wr.heap.size < W4.heap.size := y4.lt
            have HB4 := Lib.hid b4
            have HY4 := Lib.hid y4
            clear hst b4 y4
            go_wp2_with fail
            rw [← hW4]
            clear hW4
            refine (HCo.out).mono ?_
            rintro e w5 ⟨R5, d5, rfl, hs5, b5⟩
            have y5 := HY4.out.below' b5
            obtain ⟨⟨d0, d1, d2, d3, d4, d51, d6⟩, f0, f1, f2, f3, f4, f5, f6⟩ := y5.seven
            obtain ⟨W6, hW6⟩ : ∃ W, w5.setCell ⟨wr.heap.size, 3, none⟩ (.slice R5 q d5) = W := ⟨_, rfl⟩
            have g6 : w5.grownBy W6 (some wr.heap.size) := by rw [← hW6]; exact grown_setCell (World.grownBy.refl _ _) _ _
            have b6 := belowNew W6 (.cells #[.int .i64 1, .string nm, .string o, .slice R5 q d5, .int .i64 py, .int .i64 wd, .int .i64 vl] 53)
            have hq6 : W6.heap.size = w5.heap.size := by rw [← hW6]; simp
            have HY : Hid (∀ i v, (lnCells ⟨1, nm, o, ps, py, wd, vl⟩ R5 q d5)[i]? = some v → (W6.alloc (.cells #[.int .i64 1, .string nm, .string o, .slice R5 q d5, .int .i64 py, .int .i64 wd, .int .i64 vl] 53)).cell? ⟨w5.heap.size, i, none⟩ = some v) := fun i v hv => by
              rw [← hq6]
              exact (Blk.new W6 #[.int .i64 1, .string nm, .string o, .slice R5 q d5, .int .i64 py, .int .i64 wd, .int .i64 vl] 53).cell (i := i) (by simpa [lnCells] using hv)
            have HP5 : Hid (∀ ad : Addr, R5 = some ad → wr.heap.size ≤ ad.block) := fun ad e => Nat.le_trans (Nat.le_of_lt s4) (hs5.born ad e).1
            have b45 : Below wr.heap.size wr w5 := HB4.out.trans (b5.mono (Nat.le_of_lt s4))
            have b46 : Below wr.heap.size wr W6 := b45.grown g6 b45.size (fun k hk => by cases hk; exact Nat.le_refl _)
            have HO5 := Lib.hid ((HOk.out.below b46).below b6)
            have HS5 := Lib.hid (((hs5.kept g6 (fun ad e => by have := (hs5.born ad e).1; simp; omega)).below b6).mono (Nat.le_trans sz (Nat.le_of_lt s4)))
            have s5 := b46.size
            have s6 := b6.size
            have HB6 := Lib.hid (BK.out.trans ((b46.mono sz).trans (b6.mono (Nat.le_trans sz s5))))
            have HW6 := Lib.hid hW6
            clear hs5 b5 b6 y5 g6 b45 b46 hW6 hq6
            go_wp2_with (at_builtin; rw [HW6.out]; refine lineOnto _ rfl _ _ rfl ⟨1, nm, o, ps, py, wd, vl⟩ R5 q d5 w3.heap.size wr.heap.size R m c' (keptTo ls k) F w5.heap.size rfl rfl HY.out HO5.out HS5.out HP5.out (by omega) (Nat.le_trans s5 s6) (Nat.le_trans sz (Nat.le_trans s5 s6)) ?_; intro A7 c7 F7 w7 O7 b7; have HO7 := Lib.hid O7; have HB7 := Lib.hid b7; clear O7 b7)
            go_roundw
            case rel => exact ⟨k + 1, A7, m + 1, c7, F7, by omega, by omega, by go_num, rfl, by rw [HS.out]; exact HO7, HB6.out.trans HB7.out⟩
            case measure => simp [intOf]; omega
          · have HS : Hid (keptTo ls (k + 1) = keptTo ls k) := by show _ = _; rw [hst]; simp [hk1]
            clear hst
            go_wp2_with fail
            go_roundw
            case rel => exact ⟨k + 1, R, m, c', F, by omega, by omega, by go_num, rfl, by rw [HS.out]; exact HOk, BK.out⟩
            case measure => simp [intOf]; omega
      · obtain rfl : k = n := by omega
        have HF : Hid (OwnL wr w.heap.size wr.heap.size R m c' rp F) := by show OwnL _ _ _ _ _ _ _ _; rw [← HR.out, HL.out]; exact HOk.out.mono s3 (Nat.le_refl _)
        have H3 : Hid (∀ j, (lnAt rp j).parts.length ≤ 3) := fun j => by rw [← HR.out]; exact kept_three HQ.out.2.1 j
        have BW : Hid (Below w.heap.size w wr) := HB3.out.trans (bk.mono s3)
        clear bk
        go_wp2_with fail
        go_ret2
        exact ⟨R, m, c', F, rfl, HF.out, by omega, H3.out, BW.out⟩

end Go.Proofs.YtcbofogmfelpkaaDoor
