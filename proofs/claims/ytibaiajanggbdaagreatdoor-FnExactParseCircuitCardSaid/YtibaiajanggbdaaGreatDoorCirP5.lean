/- The model's ParseCircuit. For every text of at most 1048576 bytes. -/
import Derived.Test.YtibaiajanggbdaaGreatDoorCirP4
import Derived.Test.YtibaiajanggbdaaGreatDoorCirG16
namespace Go.Proofs.YtibaiajanggbdaaGreatDoor
open Go Go.RowKit
set_option maxRecDepth 100000

def wordsOf (l : ByteArray) : List ByteArray := (cutL 32 [] l.data.toList).map ofL
def linesOf (s : ByteArray) : List ByteArray := (cutL 10 [] s.data.toList).map ofL
def readTo (ts : List ByteArray) (k : Nat) : Ci := (ts.take k).foldl (fun C l => lineC C (wordsOf l)) ⟨0, 0, [], []⟩
def mRead (s : ByteArray) : Ci := readTo (linesOf s) (linesOf s).length
def m_ParseCircuit (s : ByteArray) : Ci × Bool := if gd (mRead s) = true ∧ strOfNums (textL (mRead s)) = s then (mRead s, true) else (⟨0, 0, [], []⟩, false)

theorem pieces_of {ts : List ByteArray} {L : List (List UInt8)} (h : ts.map (·.data.toList) = L) : ts = L.map ofL := by
  rw [← h, List.map_map]
  have e : (ofL ∘ fun t : ByteArray => t.data.toList) = id := funext fun t => ofL_data t
  rw [e, List.map_id]
theorem cutL_pos (c : UInt8) : ∀ (L acc : List UInt8), 1 ≤ (cutL c acc L).length := by
  intro L
  induction L with
  | nil => intro acc; simp [cutL]
  | cons x r ih =>
    intro acc
    rw [cutL]
    split
    · simp
    · exact ih _
theorem cutL_sum (c : UInt8) : ∀ (L acc : List UInt8), ((cutL c acc L).map List.length).sum + ((cutL c acc L).length - 1) = acc.length + L.length := by
  intro L
  induction L with
  | nil => intro acc; simp [cutL]
  | cons x r ih =>
    intro acc
    rw [cutL]
    split
    · have h := ih []
      have h1 := cutL_pos c r []
      simp only [List.map_cons, List.sum_cons, List.length_cons, List.length_nil] at h ⊢
      omega
    · have h := ih (acc ++ [x])
      simp only [List.length_append, List.length_cons, List.length_nil] at h ⊢
      omega
theorem sum_take (l : List Nat) (k : Nat) : (l.take k).sum ≤ l.sum := by
  have h := List.sum_append (l₁ := l.take k) (l₂ := l.drop k)
  rw [List.take_append_drop] at h
  omega
theorem mem_sum {l : List Nat} {x : Nat} (h : x ∈ l) : x ≤ l.sum := by
  induction l with
  | nil => cases h
  | cons y l ih =>
    rw [List.sum_cons]
    rcases List.mem_cons.1 h with rfl | h
    · omega
    · have := ih h; omega
theorem sizes_sum (c : UInt8) (s : ByteArray) : (((cutL c [] s.data.toList).map ofL).map (·.size)).sum ≤ s.size := by
  have h := cutL_sum c s.data.toList []
  have e : ((cutL c [] s.data.toList).map ofL).map (·.size) = (cutL c [] s.data.toList).map List.length := by
    rw [List.map_map]
    refine List.map_congr_left fun l _ => ?_
    show (ofL l).size = l.length
    simp [ofL, ByteArray.size]
  rw [e]
  have : s.data.toList.length = s.size := rfl
  simp only [List.length_nil] at h
  omega
theorem lineC_gs (C : Ci) (ws : List ByteArray) : (lineC C ws).gs.length ≤ C.gs.length + 1 := by
  unfold lineC
  repeat' split
  all_goals simp
theorem lineC_os (C : Ci) (ws : List ByteArray) : (lineC C ws).os.length ≤ C.os.length + (ws.length - 1) := by
  unfold lineC
  repeat' split
  all_goals simp
theorem readTo_next {ts : List ByteArray} {k : Nat} (h : k < ts.length) : readTo ts (k + 1) = lineC (readTo ts k) (wordsOf (wordAt ts k)) := by
  unfold readTo
  rw [List.take_add_one, List.getElem?_eq_getElem h, Option.toList_some, List.foldl_append]
  simp [wordAt, List.getElem?_eq_getElem h]
theorem lineC_empty (C : Ci) : lineC C [ofL []] = C := by
  have hk : kindTo (ofL []) 4 = -1 := by simp [kindTo, same, kindB, ofL]
  simp [lineC, same, wordAt, circB, outsB, hk]
theorem lineC_gs2 (C : Ci) (l : ByteArray) : (lineC C (wordsOf l)).gs.length ≤ C.gs.length + l.size := by
  by_cases h : l.size = 0
  · have hd : l.data.toList = [] := List.length_eq_zero_iff.1 h
    have e : wordsOf l = [ofL []] := by rw [wordsOf, hd]; rfl
    rw [e, lineC_empty]
    omega
  · have := lineC_gs C (wordsOf l)
    omega
theorem readTo_len (ts : List ByteArray) : ∀ k, k ≤ ts.length → (readTo ts k).gs.length ≤ ((ts.take k).map (·.size)).sum ∧ (readTo ts k).os.length ≤ ((ts.take k).map (·.size)).sum := by
  intro k
  induction k with
  | zero => intro _; simp [readTo]
  | succ k ih =>
    intro hk
    obtain ⟨i1, i2⟩ := ih (by omega)
    have hk' : k < ts.length := by omega
    rw [readTo_next hk']
    have g1 := lineC_gs2 (readTo ts k) (wordAt ts k)
    have g2 := lineC_os (readTo ts k) (wordsOf (wordAt ts k))
    have g3 : (wordsOf (wordAt ts k)).length ≤ (wordAt ts k).size + 1 := by
      rw [wordsOf, List.length_map]
      exact cutL_length 32 _ []
    have e : ts.take (k + 1) = ts.take k ++ [wordAt ts k] := by
      rw [List.take_add_one, List.getElem?_eq_getElem hk', Option.toList_some]
      simp [wordAt, List.getElem?_eq_getElem hk']
    rw [e, List.map_append, List.sum_append]
    simp only [List.map_cons, List.map_nil, List.sum_cons, List.sum_nil]
    constructor <;> omega
theorem linesOf_len (s : ByteArray) : (linesOf s).length ≤ s.size + 1 := by
  rw [linesOf, List.length_map]
  exact cutL_length 10 _ []
theorem line_size (s : ByteArray) {k : Nat} (h : k < (linesOf s).length) : (wordAt (linesOf s) k).size ≤ s.size := by
  have h1 := sizes_sum 10 s
  have h2 : (wordAt (linesOf s) k).size ∈ (linesOf s).map (·.size) := by
    rw [List.mem_map]
    exact ⟨(linesOf s)[k], List.getElem_mem h, by simp [wordAt, List.getElem?_eq_getElem h]⟩
  exact Nat.le_trans (mem_sum h2) h1
theorem word_size (l : ByteArray) {k : Nat} (h : k < (wordsOf l).length) : (wordAt (wordsOf l) k).size ≤ l.size := by
  have h1 := sizes_sum 32 l
  have h2 : (wordAt (wordsOf l) k).size ∈ (wordsOf l).map (·.size) := by
    rw [List.mem_map]
    exact ⟨(wordsOf l)[k], List.getElem_mem h, by simp [wordAt, List.getElem?_eq_getElem h]⟩
  exact Nat.le_trans (mem_sum h2) h1
theorem readTo_os (s : ByteArray) {k : Nat} (h : k ≤ (linesOf s).length) : (readTo (linesOf s) k).gs.length ≤ s.size ∧ (readTo (linesOf s) k).os.length ≤ s.size := by
  have h1 := readTo_len (linesOf s) k h
  have h2 := sizes_sum 10 s
  have h3 := sum_take ((linesOf s).map (·.size)) k
  rw [← List.map_take] at h3
  exact ⟨Nat.le_trans h1.1 (Nat.le_trans h3 h2), Nat.le_trans h1.2 (Nat.le_trans h3 h2)⟩

set_option maxRecDepth 100000 in
set_option maxHeartbeats 8000000 in
theorem ciParse_any (s : ByteArray) (RC : Ci) (rb : Bool) (w : World) (hs : s.size ≤ 1048576) (hm : m_ParseCircuit s = (RC, rb)) :
    Calls Tryz.prog 66 #[.string s] w fun e w' => ∃ u, e = .returned (.tuple #[u, .bool rb]) ∧ OwnC w' w.heap.size u RC ∧ RC.gs.length ≤ 1048576 ∧ RC.os.length ≤ 1048576 ∧ Below w.heap.size w w' := by
  have HM := Lib.hid hm
  clear hm
  have b1 := belowNew w (.cells #[.int .i64 0, .int .i64 0, .slice none 0 0, .slice none 0 0] 27)
  have r1 := Blk.new w #[.int .i64 0, .int .i64 0, .slice none 0 0, .slice none 0 0] 27
  obtain ⟨W1, hW1⟩ : ∃ W, W = w.alloc (.cells #[.int .i64 0, .int .i64 0, .slice none 0 0, .slice none 0 0] 27) := ⟨_, rfl⟩
  have s1 : W1.heap.size = w.heap.size + 1 := by rw [hW1]; simp
  rw [← hW1] at b1 r1
  have b2 := belowNew W1 (.cells #[.int .i64 0, .int .i64 0, .slice none 0 0, .slice none 0 0] 27)
  have p2 := Blk.newAt (k := w.heap.size + 1) W1 #[.int .i64 0, .int .i64 0, .slice none 0 0, .slice none 0 0] 27 s1.symm
  have r2 := r1.below' b2
  obtain ⟨W2, hW2⟩ : ∃ W, W = W1.alloc (.cells #[.int .i64 0, .int .i64 0, .slice none 0 0, .slice none 0 0] 27) := ⟨_, rfl⟩
  have s2 : W2.heap.size = w.heap.size + 1 + 1 := by rw [hW2]; simp [s1]
  rw [← hW2] at b2 p2 r2
  have B2 := b1.trans (b2.mono b1.size)
  have hsp := l1Split_any s 10 W2 hs
  rw [show (((10 : UInt8).toNat : Nat) : Int) = 10 from rfl] at hsp
  have HSp := Lib.hid hsp
  clear hsp
  go_enter Tryz.func66, Tryz.ntmps66
  go_wp2_with fail
  rw [← hW1, ← hW2]
  clear hW1 hW2
  refine (HSp.out).mono ?_
  rintro e w3 ⟨v, n, ts, rfl, hts, HT, hn1, hn2, b3⟩
  have hT : ts = linesOf s := pieces_of HT.out
  have hl : (linesOf s).length = n := by rw [← hT]; exact hts.1
  rw [hT] at hts
  have B3 := B2.trans (b3.mono B2.size)
  have p3 := p2.below' b3
  have r3 := r2.below' b3
  obtain ⟨g, cp, rfl, hg3, hncp, _⟩ := wordsAt hts hn1
  have hgq : W2.heap.size ≤ g := (hts.2.lt g rfl).1
  have hqg : w.heap.size + 1 ≠ g := by omega
  have hqN : w.heap.size + 1 < w3.heap.size := p3.lt
  have HP0 : Hid (PtrC w3 w3.heap.size (w.heap.size + 1) (readTo (linesOf s) 0)) := ⟨hqN, Nat.le_refl _, none, 0, 0, none, 0, 0, p3, ⟨rfl, World.ownsRow_nil _ _ _ _⟩, Own.nil_ _ _⟩
  have HLn := Lib.hid hl
  have HTs := Lib.hid hts
  clear HSp HT p2 r1 r2 b1 b2 b3 hT hl hts p3
  go_wp2_with fail
  go_loopw [12] (fun i wr => ∃ (k : Nat), k ≤ n ∧ i = .int .i64 k ∧ PtrC wr w3.heap.size (w.heap.size + 1) (readTo (linesOf s) k) ∧ Past w3.heap.size (w.heap.size + 1) w3 wr) (fun i _ => n - (intOf i).toNat)
  case atStart => exact ⟨0, Nat.zero_le _, rfl, HP0.out, Past.refl _ _ _⟩
  case round =>
    obtain ⟨k, hk, rfl, hp, pk⟩ := hrel
    by_cases hlt : k < n
    · have hts : Strs wr W2.heap.size (.slice (some ⟨g, 0, none⟩) n cp) n (linesOf s) := ⟨HTs.out.1, HTs.out.2.kept (pk.grown rfl) (.inr (by show some g ≠ some (w.heap.size + 1); simp; omega))⟩
      have c1 := wordsIn hts k hlt
      obtain ⟨x, hx⟩ : ∃ x, wordAt (linesOf s) k = x := ⟨_, rfl⟩
      have hkl : k < (linesOf s).length := by rw [HLn.out]; exact hlt
      have hxs := line_size s hkl
      rw [hx] at c1 hxs
      have HN : Hid (readTo (linesOf s) (k + 1) = lineC (readTo (linesOf s) k) (wordsOf x)) := by show _ = _; rw [readTo_next hkl, hx]
      obtain ⟨hgs, hos⟩ := readTo_os s (k := k) (by omega)
      have hsp := l1Split_any x 32 wr (by omega)
      rw [show (((32 : UInt8).toNat : Nat) : Int) = 32 from rfl] at hsp
      have HSp := Lib.hid hsp
      have p0 : (0 : Int) ≤ (k : Int) := by omega
      have p1 : (k : Int) < (n : Int) := by omega
      clear hsp hx hkl hts
      go_wp2_with fail
      refine (HSp.out).mono ?_
      rintro e w5 ⟨v5, n5, ws, rfl, hws, HT, hm1, hm2, b5⟩
      have hW : ws = wordsOf x := pieces_of HT.out
      have hwl : (wordsOf x).length = n5 := by rw [← hW]; exact hws.1
      have hp5 := hp.below b5
      have HLine := Lib.hid (ciLine_any w3.heap.size (w.heap.size + 1) wr.heap.size n5 (readTo (linesOf s) k) v5 ws w5 hp5 hws hm1 (by omega) (by omega) (by omega) (fun j hj => by rw [hW]; exact Nat.le_trans (word_size x (by omega)) (by omega)))
      clear HSp HT hws hwl
      go_wp2_with fail
      refine (HLine.out).mono ?_
      rintro e w6 ⟨rfl, hp6, pk6⟩
      rw [hW, ← HN.out] at hp6
      have pk5 : Past w3.heap.size (w.heap.size + 1) wr w5 := Past.of (b5.mono hp.2.1)
      go_wp2_with fail
      go_roundw
      case rel => exact ⟨k + 1, by omega, by go_num, hp6, (pk.trans pk5).trans pk6⟩
      case measure => simp [intOf]; omega
    · obtain rfl : k = n := by omega
      obtain ⟨M, hM⟩ : ∃ M, mRead s = M := ⟨_, rfl⟩
      have hM2 : readTo (linesOf s) k = M := by rw [← hM, mRead, HLn.out]
      have hgs : M.gs.length ≤ 1048576 ∧ M.os.length ≤ 1048576 := by
        have h := readTo_os s (k := k) (by rw [HLn.out]; exact Nat.le_refl _)
        rw [← hM2]
        exact ⟨Nat.le_trans h.1 hs, Nat.le_trans h.2 hs⟩
      have HMs := Lib.hid hM
      rw [hM2] at hp
      obtain ⟨h1, h2, G, gn, gc, O, om, od, p, hgg, hoo⟩ := hp
      have hB3 := B3.size
      have Br : Below w.heap.size w wr := B3.trans ⟨pk.os, pk.tape, pk.output, pk.size, fun i hi => pk.block i (by omega) (by omega)⟩
      have r4 : Blk wr w.heap.size #[.int .i64 0, .int .i64 0, .slice none 0 0, .slice none 0 0] 27 := (pk.block _ (by omega) (by omega)).trans r3
      have hown : OwnC wr w3.heap.size (.agg #[.int .i64 M.in0, .int .i64 M.in1, .slice G gn gc, .slice O om od]) M := ⟨G, gn, gc, O, om, od, rfl, hgg, hoo⟩
      obtain ⟨ok, hok⟩ : ∃ ok, gd M = ok := ⟨_, rfl⟩
      obtain ⟨eq, heq⟩ : ∃ eq, same (strOfNums (textL M)) s = eq := ⟨_, rfl⟩
      have HGd := Lib.hid (ciGood_any _ M ok wr hown.has hgs hok)
      have HOk := Lib.hid hok
      have HEq := Lib.hid heq
      obtain ⟨k0, k1, k2, k3⟩ := p.four
      have hps : Hid (∀ W', Below wr.heap.size wr W' → Blk W' (w.heap.size + 1) #[.int .i64 M.in0, .int .i64 M.in1, .slice G gn gc, .slice O om od] 27) := fun W' hb => p.below' hb
      clear hM hM2 HTs HLn h1
      go_upto_region 7 with fail
      go_cut [33] (fun vq wx => vq = .bool (!(ok && eq)) ∧ Below wr.heap.size wr wx)
      case first =>
        cases ok with
        | false =>
          go_wp2_with fail
          refine (HGd.out).mono ?_
          rintro e w4 ⟨rfl, b4⟩
          go_wp2_with fail
          go_meet
          exact ⟨by simp, b4⟩
        | true =>
          go_wp2_with fail
          refine (HGd.out).mono ?_
          rintro e w4 ⟨rfl, b4⟩
          clear k0 k1 k2 k3
          obtain ⟨k0, k1, k2, k3⟩ := (hps.out _ b4).four
          have HTx := Lib.hid (ciText_any _ M w4 (hown.has.below b4) (gd_yes HOk.out))
          go_wp2_with fail
          refine (HTx.out).mono ?_
          rintro e w5 ⟨t, rfl, HT, ht, b5⟩
          have hts : (t.toList == s.toList) = eq := by have h5 := HEq.out; rw [← HT.out] at h5; exact h5
          go_wp2_with fail
          go_meet
          exact ⟨by cases eq <;> simp, b4.trans (b5.mono b4.size)⟩
      case rest =>
      obtain ⟨rfl, b5⟩ := hcut
      obtain ⟨w5, rfl⟩ : ∃ x, x = wc := ⟨_, rfl⟩
      have r5 := r4.below' b5
      have p5 := p.below' b5
      have o5 := hown.below b5
      have Bw := Br.trans (b5.mono Br.size)
      clear k0 k1 k2 k3
      obtain ⟨k0, k1, k2, k3⟩ := p5.four
      obtain ⟨z0, z1, z2, z3⟩ := r5.four
      have f0 := r5.free 0
      have f1 := r5.free 1
      have f2 := r5.free 2
      have f3 := r5.free 3
      have e := HM.out
      rw [m_ParseCircuit, HMs.out] at e
      cases hoe : (ok && eq) with
      | true =>
        obtain ⟨rfl, rfl⟩ : ok = true ∧ eq = true := by simpa using hoe
        rw [if_pos ⟨HOk.out, (same_iff _ _).1 HEq.out⟩] at e
        obtain ⟨rfl, rfl⟩ := Prod.mk.inj e
        clear e hoe HM HMs HGd hps
        go_wp2_with fail
        have r6 := (((r5.set 0 (.int .i64 M.in0)).set 1 (.int .i64 M.in1)).set 2 (.slice G gn gc)).set 3 (.slice O om od)
        obtain ⟨e0, e1, e2, e3⟩ := (show Blk _ w.heap.size #[.int .i64 M.in0, .int .i64 M.in1, .slice G gn gc, .slice O om od] 27 from r6).four
        have g6 := grown_setCell (grown_setCell (grown_setCell (grown_setCell (World.grownBy.refl w5 (some w.heap.size)) 0 (.int .i64 M.in0)) 1 (.int .i64 M.in1)) 2 (.slice G gn gc)) 3 (.slice O om od)
        refine bodyPost_ret (v := .tuple #[.agg #[.int .i64 M.in0, .int .i64 M.in1, .slice G gn gc, .slice O om od], .bool true]) (by simp [results, Tryz.results66, go_sem, e0, e1, e2, e3]) rfl ⟨_, rfl, (o5.kept g6 (by omega)).mono (by omega), hgs.1, hgs.2, ?_⟩
        exact (((Bw.setCell (Nat.le_refl _) _).setCell (Nat.le_refl _) _).setCell (Nat.le_refl _) _).setCell (Nat.le_refl _) _
      | false =>
        have hne : ¬ (gd M = true ∧ strOfNums (textL M) = s) := by
          rintro ⟨h1, h2⟩
          have h3 := HOk.out
          have h4 := HEq.out
          rw [h1] at h3
          rw [(same_iff _ _).2 h2] at h4
          rw [← h3, ← h4] at hoe
          cases hoe
        rw [if_neg hne] at e
        obtain ⟨rfl, rfl⟩ := Prod.mk.inj e
        clear e hoe HM HMs HGd hps hne
        go_wp2_with fail
        have r6 := (((r5.set 0 (.int .i64 0)).set 1 (.int .i64 0)).set 2 (.slice none 0 0)).set 3 (.slice none 0 0)
        obtain ⟨e0, e1, e2, e3⟩ := (show Blk _ w.heap.size #[.int .i64 0, .int .i64 0, .slice none 0 0, .slice none 0 0] 27 from r6).four
        refine bodyPost_ret (v := .tuple #[.agg #[.int .i64 0, .int .i64 0, .slice none 0 0, .slice none 0 0], .bool false]) (by simp [results, Tryz.results66, go_sem, e0, e1, e2, e3]) rfl ⟨_, rfl, ⟨none, 0, 0, none, 0, 0, rfl, ⟨rfl, World.ownsRow_nil _ _ _ _⟩, Own.nil_ _ _⟩, ?_⟩
        exact (((Bw.setCell (Nat.le_refl _) _).setCell (Nat.le_refl _) _).setCell (Nat.le_refl _) _).setCell (Nat.le_refl _) _

set_option maxHeartbeats 2000000 in
theorem spec_ParseCircuit (s : ByteArray) (RC : Ci) (rb : Bool) (w : World) (hs : s.size ≤ 1048576) (hm : m_ParseCircuit s = (RC, rb)) :
    Calls Tryz.prog 22 #[.string s] w fun e w' => ∃ u, e = .returned (.tuple #[u, .bool rb]) ∧ HasC w' u RC ∧ RC.gs.length ≤ 1048576 ∧ RC.os.length ≤ 1048576 ∧ Below w.heap.size w w' := by
  have b1 := belowNew w (.cells #[.int .i64 0, .int .i64 0, .slice none 0 0, .slice none 0 0] 27)
  have r1 := Blk.new w #[.int .i64 0, .int .i64 0, .slice none 0 0, .slice none 0 0] 27
  obtain ⟨W1, hW1⟩ : ∃ W, W = w.alloc (.cells #[.int .i64 0, .int .i64 0, .slice none 0 0, .slice none 0 0] 27) := ⟨_, rfl⟩
  have s1 : W1.heap.size = w.heap.size + 1 := by rw [hW1]; simp
  rw [← hW1] at b1 r1
  have HC := Lib.hid (ciParse_any s RC rb W1 hs hm)
  clear hm
  go_enter Tryz.func22, Tryz.ntmps22
  go_wp2_with fail
  rw [← hW1]
  clear hW1
  refine (HC.out).mono ?_
  rintro e w2 ⟨u, rfl, ho, l1, l2, b2⟩
  obtain ⟨G, gn, gc, O, om, od, rfl, hgg, hoo⟩ := id ho
  have r2 := r1.below' b2
  have Bw := b1.trans (b2.mono b1.size)
  obtain ⟨z0, z1, z2, z3⟩ := r2.four
  have f0 := r2.free 0
  have f1 := r2.free 1
  have f2 := r2.free 2
  have f3 := r2.free 3
  go_wp2_with fail
  have r6 := (((r2.set 0 (.int .i64 RC.in0)).set 1 (.int .i64 RC.in1)).set 2 (.slice G gn gc)).set 3 (.slice O om od)
  obtain ⟨e0, e1, e2, e3⟩ := (show Blk _ w.heap.size #[.int .i64 RC.in0, .int .i64 RC.in1, .slice G gn gc, .slice O om od] 27 from r6).four
  have g6 := grown_setCell (grown_setCell (grown_setCell (grown_setCell (World.grownBy.refl w2 (some w.heap.size)) 0 (.int .i64 RC.in0)) 1 (.int .i64 RC.in1)) 2 (.slice G gn gc)) 3 (.slice O om od)
  refine bodyPost_ret (v := .tuple #[.agg #[.int .i64 RC.in0, .int .i64 RC.in1, .slice G gn gc, .slice O om od], .bool rb]) (by simp [results, Tryz.results22, go_sem, e0, e1, e2, e3]) rfl ⟨_, rfl, (ho.kept g6 (by omega)).has, l1, l2, ?_⟩
  exact (((Bw.setCell (Nat.le_refl _) _).setCell (Nat.le_refl _) _).setCell (Nat.le_refl _) _).setCell (Nat.le_refl _) _

end Go.Proofs.YtibaiajanggbdaaGreatDoor
