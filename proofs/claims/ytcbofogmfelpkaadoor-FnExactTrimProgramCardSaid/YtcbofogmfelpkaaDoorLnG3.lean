/- The model's width of a line behind others. For lists of at most 16777216 lines. -/
import Derived.Test.YtcbofogmfelpkaaDoorLnG2
import Derived.Deep.RegionHeld3
import Derived.Deep.RegionLaw
import Derived.Deep.CutBlock
namespace Go.Proofs.YtcbofogmfelpkaaDoor
open Go Go.RowKit
set_option maxRecDepth 100000

theorem partWs_step (pre : List Ln) (ws : List Int) (ps : List ByteArray) (k : Nat) (h : k < ps.length) : partWs pre ws (ps.take (k + 1)) = partWs pre ws (ps.take k) ++ [ws.getD (findL pre (wordAt ps k)).toNat 0] := by
  rw [List.take_add_one, List.getElem?_eq_getElem h, Option.toList_some, partWs, List.map_append]
  simp [partWs, wordAt, List.getD_eq_getElem?_getD, List.getElem?_eq_getElem h]
theorem parts_bad {pre : List Ln} {ps : List ByteArray} {k : Nat} (hk : k < ps.length) (h : findL pre (wordAt ps k) < 0) : ps.all (fun p => decide (0 ≤ findL pre p)) = false := by
  rw [List.all_eq_false]
  refine ⟨ps[k], List.getElem_mem hk, ?_⟩
  have e : wordAt ps k = ps[k] := by simp [wordAt, List.getD_eq_getElem?_getD, List.getElem?_eq_getElem hk]
  rw [e] at h
  simp; omega
theorem parts_ok {pre : List Ln} {ps : List ByteArray} (h : ∀ j, j < ps.length → 0 ≤ findL pre (wordAt ps j)) : ps.all (fun p => decide (0 ≤ findL pre p)) = true := by
  rw [List.all_eq_true]
  intro x hx
  obtain ⟨j, hj, rfl⟩ := List.getElem_of_mem hx
  have := h j hj
  have e : wordAt ps j = ps[j] := by simp [wordAt, List.getD_eq_getElem?_getD, List.getElem?_eq_getElem hj]
  rw [e] at this
  simpa using this
theorem findL_lt {pre : List Ln} {s : ByteArray} {n : Nat} (hn : pre.length = n) (h : 0 ≤ findL pre s) : (findL pre s).toNat < n ∧ ((findL pre s).toNat : Int) = findL pre s := by
  rcases findL_range pre s with ⟨_, h2⟩ | h2
  · omega
  · omega

/-- The copy's fields, as the kind leaves them. -/
def NmC (kd : Int) (nm nm' : ByteArray) (pre : List Ln) : Prop := (kd = 6 ∧ nm' = ⟨#[]⟩) ∨ (kd ≠ 6 ∧ nm' = nm ∧ nameOk nm = true ∧ findL pre nm < 0)
def OpC (kd : Int) (o o' : ByteArray) : Prop := (kd = 3 ∧ o' = o) ∨ (kd ≠ 3 ∧ o' = ⟨#[]⟩)
def PyC (kd py py' : Int) : Prop := (kd = 1 ∧ py' = py) ∨ (kd ≠ 1 ∧ py' = 0)
def WdC (kd wd wd' : Int) : Prop := ((kd = 1 ∨ kd = 2) ∧ wd' = wd) ∨ ((kd ≠ 1 ∧ kd ≠ 2) ∧ wd' = 0)
def VlC (kd vl vl' : Int) : Prop := (kd = 2 ∧ vl' = vl) ∨ (kd ≠ 2 ∧ vl' = 0)
def OneOrTwo (kd : Int) (t : Bool) : Prop := ((kd = 1 ∨ kd = 2) ∧ t = false) ∨ ((kd ≠ 1 ∧ kd ≠ 2) ∧ t = true)
/-- The line's fields are not as they must be. -/
def BadF (x : Ln) (t : Bool) : Prop := t = !fieldsOk x
theorem same_ne {a b : ByteArray} (h : same a b = false) : (a.toList != b.toList) = true := by
  have h' : (a.toList == b.toList) = false := h
  simp [bne, h']
theorem same_eq {a b : ByteArray} (h : same a b = true) : (a.toList != b.toList) = false := by
  have h' : (a.toList == b.toList) = true := h
  simp [bne, h']
theorem fieldsOk_iff {kd : Int} {nm o nm' o' : ByteArray} {ps : List ByteArray} {py wd vl py' wd' vl' : Int} {pre : List Ln} (h1 : NmC kd nm nm' pre) (h2 : OpC kd o o') (h3 : PyC kd py py') (h4 : WdC kd wd wd') (h5 : VlC kd vl vl') :
    fieldsOk ⟨kd, nm, o, ps, py, wd, vl⟩ = true ↔ nm' = nm ∧ o' = o ∧ py' = py ∧ wd' = wd ∧ vl' = vl ∧ (ps.length : Int) = partsK kd := by
  have e : (⟨#[]⟩ : ByteArray) = ByteArray.empty := rfl
  rw [fieldsOk, Bool.and_eq_true, Bool.and_eq_true, decide_eq_true_eq, Bool.or_eq_true, Bool.or_eq_true, same_iff, same_iff]
  simp only [beq_iff_eq, decide_eq_true_eq, decide_eq_false_iff_not]
  rw [e] at *
  have n1 : (¬ kd = 6 ∨ nm = ByteArray.empty) ↔ nm' = nm := by
    rcases h1 with ⟨a, b⟩ | ⟨a, b, _⟩
    · rw [b, e]; constructor
      · rintro (h | h)
        · exact absurd a h
        · exact h.symm
      · exact fun h => .inr h.symm
    · exact ⟨fun _ => b, fun _ => .inl a⟩
  have n2 : (kd = 3 ∨ o = ByteArray.empty) ↔ o' = o := by
    rcases h2 with ⟨a, b⟩ | ⟨a, b⟩
    · exact ⟨fun _ => b, fun _ => .inl a⟩
    · rw [b, e]; constructor
      · rintro (h | h)
        · exact absurd h a
        · exact h.symm
      · exact fun h => .inr h.symm
  have n3 : (kd = 1 ∨ py = 0) ↔ py' = py := by unfold PyC at h3; omega
  have n4 : (kd = 1 ∨ kd = 2 ∨ wd = 0) ↔ wd' = wd := by unfold WdC at h4; omega
  have n5 : (kd = 2 ∨ vl = 0) ↔ vl' = vl := by unfold VlC at h5; omega
  rw [n1, n2, n3, n4, n5]
  constructor
  · rintro ⟨⟨a, b⟩, c, d, e, f⟩; exact ⟨a, b, c, d, e, f⟩
  · rintro ⟨a, b, c, d, e, f⟩; exact ⟨⟨a, b⟩, c, d, e, f⟩

set_option maxRecDepth 100000 in
set_option maxHeartbeats 16000000 in
theorem laWidth_any (A : Option Addr) (n c : Nat) (pre : List Ln) (U : Option Addr) (cU : Nat) (ws : List Int) (kd : Int) (nm o : ByteArray) (ps : List ByteArray) (py wd vl : Int) (P : Option Addr) (m d : Nat) (w : World) (h : HasL w A n pre) (hn : n ≤ 16777216) (hu : Has w U n ws)
    (hws : ∀ j, 0 ≤ ws.getD j 0 ∧ ws.getD j 0 ≤ 10) (hp : HasS w P m ps) (hm : m ≤ 16777216) (hs : nm.size ≤ 16777216) :
    Calls Tryd.prog 86 #[.slice A n c, .slice U n cU, .agg #[.int .i64 kd, .string nm, .string o, .slice P m d, .int .i64 py, .int .i64 wd, .int .i64 vl]] w fun e w' => e = .returned (.int .i64 (widthL pre ws ⟨kd, nm, o, ps, py, wd, vl⟩)) ∧ Below w.heap.size w w' := by
  have b1 := belowNew w (.cells #[.int .i64 kd, .string nm, .string o, .slice P m d, .int .i64 py, .int .i64 wd, .int .i64 vl] 53)
  have y1 := Blk.new w #[.int .i64 kd, .string nm, .string o, .slice P m d, .int .i64 py, .int .i64 wd, .int .i64 vl] 53
  obtain ⟨W1, hW1⟩ : ∃ W, W = w.alloc (.cells #[.int .i64 kd, .string nm, .string o, .slice P m d, .int .i64 py, .int .i64 wd, .int .i64 vl] 53) := ⟨_, rfl⟩
  have s1 : W1.heap.size = w.heap.size + 1 := by rw [hW1]; simp
  rw [← hW1] at b1 y1
  have HH := Lib.hid (h.below b1)
  have HU := Lib.hid (hu.below b1)
  have HP := Lib.hid (hp.below b1)
  have HL : Hid (pre.length = n) := h.1
  have HM : Hid (ps.length = m) := hp.1
  have HWs := Lib.hid hws
  have HB1 := Lib.hid b1
  have HY := Lib.hid y1
  obtain ⟨⟨c0, c1, c2, c3, c4, c5, c6⟩, _⟩ := y1.seven
  have HO : Hid (Own W1 W1.heap.size none 0 0 (partWs pre ws (ps.take 0))) := Own.nil_ _ _
  have HA0 : Hid (∀ j, j < 0 → 0 ≤ findL pre (wordAt ps j)) := fun j hj => absurd hj (Nat.not_lt_zero _)
  have HBr := Lib.hid (Below.refl W1.heap.size W1)
  clear h hu hp hws b1 y1
  go_enter Tryd.func86, Tryd.ntmps86
  go_wp2_with fail
  rw [← hW1]
  clear hW1 c0 c1 c2 c3 c4 c5 c6
  go_loopw [7, 15] (fun v i wr => ∃ (k : Nat) (R : Option Addr) (c' : Nat), k ≤ m ∧ i = .int .i64 k ∧ v = .slice R k c' ∧ Own wr W1.heap.size R k c' (partWs pre ws (ps.take k)) ∧ Hid (∀ j, j < k → 0 ≤ findL pre (wordAt ps j)) ∧ Below W1.heap.size W1 wr) (fun _ i _ => m - (intOf i).toNat)
  case atStart => exact ⟨0, none, 0, Nat.zero_le _, rfl, rfl, HO.out, HA0, HBr.out⟩
  case round =>
    obtain ⟨k, R, c', hk, rfl, rfl, ho, HA, bk⟩ := hrel
    by_cases hlt : k < m
    · obtain ⟨ad, rfl, hc⟩ := (HP.out.below bk).elem hlt
      obtain ⟨nx, hnx⟩ : ∃ x, wordAt ps k = x := ⟨_, rfl⟩
      rw [hnx] at hc
      have HNx := Lib.hid hnx
      have HF := Lib.hid (laFind_any A n c pre nx wr (HH.out.below bk) hn)
      have k0 : (0 : Int) ≤ (k : Int) := by omega
      have k1 : (k : Int) < (m : Int) := by omega
      clear hnx
      go_wp2_with fail
      refine (HF.out).mono ?_
      rintro e w2 ⟨rfl, b2⟩
      have B2 := bk.trans (b2.mono bk.size)
      have ho2 := ho.below b2
      obtain ⟨r, hr⟩ : ∃ r, findL pre nx = r := ⟨_, rfl⟩
      rw [hr]
      have HR := Lib.hid hr
      clear HF hr b2 bk ho
      by_cases h0 : r < 0
      · have HF : Hid (widthL pre ws ⟨kd, nm, o, ps, py, wd, vl⟩ = 0) := by
          show _ = _
          rw [widthL, if_pos]
          exact parts_bad (k := k) (by rw [HM.out]; exact hlt) (by rw [HNx.out, HR.out]; exact h0)
        have BF := HB1.out.trans (B2.mono HB1.out.size)
        go_wp2_with fail
        go_ret
        exact ⟨retI HF.out.symm, BF⟩
      · obtain ⟨q, rfl⟩ : ∃ q : Nat, r = (q : Int) := ⟨r.toNat, by omega⟩
        have hq : q < n := by
          have h1 := (findL_lt (s := nx) HL.out (by rw [HR.out]; omega)).1
          rw [HR.out] at h1
          simpa using h1
        obtain ⟨ud, z, rfl, hcz, HZ⟩ := (HU.out.below B2).elem hq
        have q0 : (0 : Int) ≤ (q : Int) := by omega
        have q1 : (q : Int) < (n : Int) := by omega
        have HS : Hid (partWs pre ws (ps.take k) ++ [z] = partWs pre ws (ps.take (k + 1))) := by
          show _ = _
          rw [partWs_step pre ws ps k (by rw [HM.out]; exact hlt), HNx.out, HR.out, HZ.out]
          simp
        have HA2 : Hid (∀ j, j < k + 1 → 0 ≤ findL pre (wordAt ps j)) := fun j hj => by
          by_cases e : j < k
          · exact HA.out j e
          · obtain rfl : j = k := by omega
            rw [HNx.out, HR.out]; omega
        have s2 := B2.size
        clear h0
        go_wp2_with (at_builtin; refine appendInt w2 rfl (.tmp 24) (.tmp 29) rfl z W1.heap.size _ k _ rfl rfl ho2.2 (by omega) s2 ?_; intro v3 w3 own3 b3)
        rw [HS.out] at own3
        obtain ⟨R3, c3, rfl, ho3⟩ := ownOf own3
        go_roundw
        case rel => exact ⟨k + 1, R3, c3, by omega, by go_num, rfl, ho3, HA2, B2.trans b3⟩
        case measure => simp [intOf]; omega
    · obtain rfl : k = m := by omega
      have HPs : Hid (ps.all (fun p => decide (0 ≤ findL pre p)) = true) := parts_ok fun j hj => HA.out j (by rw [HM.out] at hj; exact hj)
      have how : Own wr W1.heap.size R k c' (partWs pre ws ps) := by rw [List.take_of_length_le (by rw [HM.out]; exact Nat.le_refl _)] at ho; exact ho
      obtain ⟨⟨c0, c1, c2, c3, c4, c5, c6⟩, _⟩ := (HY.out.below' bk).seven
      clear ho
      have HO2 := Lib.hid how
      have HBk := Lib.hid bk
      have HBk2 := Lib.hid bk
      have hsz := bk.size
      have hq2 : w.heap.size < wr.heap.size := by omega
      have pow2 : ∀ p : Nat, p ≤ 10 → (1 : Int) ≤ 2 ^ p ∧ (2 : Int) ^ p ≤ 1024 := by decide
      have HPow := Lib.hid pow2
      clear how bk pow2
      go_upto_block 2 with fail
      go_cut [] (fun wx => ∃ nm', Blk wx wr.heap.size #[.int .i64 kd, .string nm', .string o, .slice P k d, .int .i64 py, .int .i64 wd, .int .i64 vl] 53 ∧ NmC kd nm nm' pre ∧ Below wr.heap.size wr wx)
      case first =>
        as_aux_lemma =>
          have b2 := belowNew wr (.cells #[.int .i64 kd, .string nm, .string o, .slice P k d, .int .i64 py, .int .i64 wd, .int .i64 vl] 53)
          have y2 := Blk.new wr #[.int .i64 kd, .string nm, .string o, .slice P k d, .int .i64 py, .int .i64 wd, .int .i64 vl] 53
          by_cases h6 : kd = 6
          · subst h6
            have y3 := Blk.new wr #[.int .i64 6, .string ⟨#[]⟩, .string o, .slice P k d, .int .i64 py, .int .i64 wd, .int .i64 vl] 53
            have b3 := belowNew wr (.cells #[.int .i64 6, .string ⟨#[]⟩, .string o, .slice P k d, .int .i64 py, .int .i64 wd, .int .i64 vl] 53)
            have HC : NmC 6 nm ⟨#[]⟩ pre := .inl ⟨rfl, rfl⟩
            go_wp2_with fail
            go_meet
            exact ⟨_, y3, HC, b3⟩
          · have q6 : (kd == 6) = false := by simpa using h6
            obtain ⟨W2, hW2⟩ : ∃ W, W = wr.alloc (.cells #[.int .i64 kd, .string nm, .string o, .slice P k d, .int .i64 py, .int .i64 wd, .int .i64 vl] 53) := ⟨_, rfl⟩
            rw [← hW2] at b2 y2
            have HNm := Lib.hid (laName_any nm W2 hs)
            have HFi := Lib.hid (laFind_any A n c pre nm W2 ((HH.out.below HBk.out).below b2) hn)
            have BW2 := HB1.out.trans ((HBk.out.trans (b2.mono hsz)).mono HB1.out.size)
            obtain ⟨okn, hok⟩ : ∃ b, nameOk nm = b := ⟨_, rfl⟩
            rw [hok] at HNm
            have HOk := Lib.hid hok
            have H6 := Lib.hid h6
            have hlq : wr.heap.size < W2.heap.size := y2.lt
            have hl1 : W1.heap.size ≤ W2.heap.size := by omega
            have hlw : w.heap.size < W2.heap.size := by omega
            clear hok h6
            go_wp2_with fail
            rw [← hW2]
            clear hW2
            refine (HNm.out).mono ?_
            rintro e w' ⟨rfl, rfl⟩
            cases okn with
            | false =>
              have HF : Hid (widthL pre ws ⟨kd, nm, o, ps, py, wd, vl⟩ = 0) := by
                show _ = _
                rw [widthL, if_neg (by rw [HPs.out]; simp), if_pos ⟨H6.out, .inl HOk.out⟩]
              go_wp2_with fail
              go_ret
              exact ⟨retI HF.out.symm, BW2⟩
            | true =>
              have c1w := (World.cell?_of_block (b2.block _ (show w.heap.size < wr.heap.size by omega))).trans c1
              go_wp2_with fail
              refine (HFi.out).mono ?_
              rintro e w3 ⟨rfl, b3⟩
              obtain ⟨r, hr⟩ : ∃ r, findL pre nm = r := ⟨_, rfl⟩
              rw [hr]
              have HR := Lib.hid hr
              have y3 := y2.below' b3
              have B3 := b2.trans (b3.mono b2.size)
              have BW3 := BW2.trans (b3.mono BW2.size)
              clear hr
              by_cases h0 : 0 ≤ r
              · have HF : Hid (widthL pre ws ⟨kd, nm, o, ps, py, wd, vl⟩ = 0) := by
                  show _ = _
                  rw [widthL, if_neg (by rw [HPs.out]; simp), if_pos ⟨H6.out, .inr (by show 0 ≤ findL pre nm; rw [HR.out]; exact h0)⟩]
                go_wp2_with fail
                go_ret
                exact ⟨retI HF.out.symm, BW3⟩
              · have HC : NmC kd nm nm pre := .inr ⟨H6.out, rfl, HOk.out, by rw [HR.out]; omega⟩
                go_wp2_with fail
                go_meet
                exact ⟨nm, y3, HC, B3⟩
      case rest =>
      obtain ⟨nm', y2, HC1, b2⟩ := hcut
      obtain ⟨w2, rfl⟩ : ∃ x, x = wc := ⟨_, rfl⟩
      have cells : ∀ wx, Below wr.heap.size wr wx → wx.cell? ⟨w.heap.size, 0, none⟩ = some (.int .i64 kd) ∧ wx.cell? ⟨w.heap.size, 1, none⟩ = some (.string nm) ∧ wx.cell? ⟨w.heap.size, 2, none⟩ = some (.string o) ∧ wx.cell? ⟨w.heap.size, 3, none⟩ = some (.slice P k d) ∧ wx.cell? ⟨w.heap.size, 4, none⟩ = some (.int .i64 py) ∧ wx.cell? ⟨w.heap.size, 5, none⟩ = some (.int .i64 wd) ∧ wx.cell? ⟨w.heap.size, 6, none⟩ = some (.int .i64 vl) := fun wx hb =>
        have key : ∀ {v i}, wr.cell? ⟨w.heap.size, i, none⟩ = some v → wx.cell? ⟨w.heap.size, i, none⟩ = some v := fun h => (World.cell?_of_block (hb.block _ hq2)).trans h
        ⟨key c0, key c1, key c2, key c3, key c4, key c5, key c6⟩
      have HCe := Lib.hid cells
      clear cells c0 c1 c2 c3 c4 c5 c6
      clear HBk
      have KEEP : ∀ (wx : World) (cs : Array Value) (i : Nat) (v : Value), Blk wx wr.heap.size cs 53 → Below wr.heap.size wr wx → Blk (wx.setCell ⟨wr.heap.size, i, none⟩ v) wr.heap.size (cs.setIfInBounds i v) 53 ∧ Below wr.heap.size wr (wx.setCell ⟨wr.heap.size, i, none⟩ v) := fun wx cs i v h1 h2 => ⟨h1.set i v, h2.setCell (Nat.le_refl _) _⟩
      have HKp := Lib.hid KEEP
      clear KEEP
      -- the operation
      obtain ⟨c0, c1, c2, c3, c4, c5, c6⟩ := HCe.out w2 b2
      go_upto_if 66 with fail
      go_cut [] (fun wx => ∃ o', Blk wx wr.heap.size #[.int .i64 kd, .string nm', .string o', .slice P k d, .int .i64 py, .int .i64 wd, .int .i64 vl] 53 ∧ OpC kd o o' ∧ Below wr.heap.size wr wx)
      case first =>
        as_aux_lemma =>
          by_cases h : kd = 3
          · have HC : OpC kd o o := .inl ⟨h, rfl⟩
            have q : (kd != 3) = false := by rw [h]; rfl
            clear h
            go_wp2_with fail
            go_meet
            exact ⟨o, y2, HC, b2⟩
          · have HC : OpC kd o ⟨#[]⟩ := .inr ⟨h, rfl⟩
            have q : (kd != 3) = true := by simpa using h
            obtain ⟨⟨d0, d1, d2, d3, d4, d5, d6⟩, f0, f1, f2, f3, f4, f5, f6⟩ := y2.seven
            have K := Lib.hid (HKp.out _ _ 2 (.string ⟨#[]⟩) y2 b2)
            clear h y2 b2
            go_wp2_with fail
            go_meet
            exact ⟨⟨#[]⟩, K.out.1, HC, K.out.2⟩
      case rest =>
      obtain ⟨o', y3, HC2, b3⟩ := hcut
      obtain ⟨w3, rfl⟩ : ∃ x, x = wc := ⟨_, rfl⟩
      clear y2 b2 c0 c1 c2 c3 c4 c5 c6
      -- the party
      obtain ⟨c0, c1, c2, c3, c4, c5, c6⟩ := HCe.out w3 b3
      go_upto_if 70 with fail
      go_cut [] (fun wx => ∃ py', Blk wx wr.heap.size #[.int .i64 kd, .string nm', .string o', .slice P k d, .int .i64 py', .int .i64 wd, .int .i64 vl] 53 ∧ PyC kd py py' ∧ Below wr.heap.size wr wx)
      case first =>
        as_aux_lemma =>
          by_cases h : kd = 1
          · have HC : PyC kd py py := .inl ⟨h, rfl⟩
            have q : (kd != 1) = false := by rw [h]; rfl
            clear h
            go_wp2_with fail
            go_meet
            exact ⟨py, y3, HC, b3⟩
          · have HC : PyC kd py 0 := .inr ⟨h, rfl⟩
            have q : (kd != 1) = true := by simpa using h
            obtain ⟨⟨d0, d1, d2, d3, d4, d5, d6⟩, f0, f1, f2, f3, f4, f5, f6⟩ := y3.seven
            have K := Lib.hid (HKp.out _ _ 4 (.int .i64 0) y3 b3)
            clear h y3 b3
            go_wp2_with fail
            go_meet
            exact ⟨0, K.out.1, HC, K.out.2⟩
      case rest =>
      obtain ⟨py', y4, HC3, b4⟩ := hcut
      obtain ⟨w4, rfl⟩ : ∃ x, x = wc := ⟨_, rfl⟩
      clear y3 b3 c0 c1 c2 c3 c4 c5 c6
      -- the width
      obtain ⟨c0, c1, c2, c3, c4, c5, c6⟩ := HCe.out w4 b4
      go_upto_region 19 with fail
      go_cut [79] (fun v wx => ∃ t : Bool, v = .bool t ∧ OneOrTwo kd t ∧ wx = w4)
      case first =>
        as_aux_lemma =>
          by_cases h : kd = 1
          · have q : (kd != 1) = false := by rw [h]; rfl
            have HC : OneOrTwo kd false := .inl ⟨.inl h, rfl⟩
            clear h
            go_wp2_with fail
            go_meet
            exact ⟨_, rfl, HC, rfl⟩
          · have q : (kd != 1) = true := by simpa using h
            by_cases h2 : kd = 2
            · have q2 : (kd != 2) = false := by rw [h2]; rfl
              have HC : OneOrTwo kd false := .inl ⟨.inr h2, rfl⟩
              clear h h2
              go_wp2_with fail
              go_meet
              exact ⟨_, rfl, HC, rfl⟩
            · have q2 : (kd != 2) = true := by simpa using h2
              have HC : OneOrTwo kd true := .inr ⟨⟨h, h2⟩, rfl⟩
              clear h h2
              go_wp2_with fail
              go_meet
              exact ⟨_, rfl, HC, rfl⟩
      case rest =>
      obtain ⟨tt, rfl, HOT, hwx⟩ := hcut
      obtain ⟨w4b, rfl⟩ : ∃ x, x = wc := ⟨_, rfl⟩
      subst hwx
      go_upto_if 79 with fail
      go_cut [] (fun wx => ∃ wd', Blk wx wr.heap.size #[.int .i64 kd, .string nm', .string o', .slice P k d, .int .i64 py', .int .i64 wd', .int .i64 vl] 53 ∧ WdC kd wd wd' ∧ Below wr.heap.size wr wx)
      case first =>
        as_aux_lemma =>
          rcases HOT with ⟨h, rfl⟩ | ⟨h, rfl⟩
          · have HC : WdC kd wd wd := .inl ⟨h, rfl⟩
            clear h
            go_wp2_with fail
            go_meet
            exact ⟨wd, y4, HC, b4⟩
          · have HC : WdC kd wd 0 := .inr ⟨h, rfl⟩
            obtain ⟨⟨d0, d1, d2, d3, d4, d5, d6⟩, f0, f1, f2, f3, f4, f5, f6⟩ := y4.seven
            have K := Lib.hid (HKp.out _ _ 5 (.int .i64 0) y4 b4)
            clear h y4 b4
            go_wp2_with fail
            go_meet
            exact ⟨0, K.out.1, HC, K.out.2⟩
      case rest =>
      obtain ⟨wd', y5, HC4, b5⟩ := hcut
      obtain ⟨w5, rfl⟩ : ∃ x, x = wc := ⟨_, rfl⟩
      clear y4 b4 c0 c1 c2 c3 c4 c5 c6
      -- the value
      obtain ⟨c0, c1, c2, c3, c4, c5, c6⟩ := HCe.out w5 b5
      go_upto_if 83 with fail
      go_cut [] (fun wx => ∃ vl', Blk wx wr.heap.size #[.int .i64 kd, .string nm', .string o', .slice P k d, .int .i64 py', .int .i64 wd', .int .i64 vl'] 53 ∧ VlC kd vl vl' ∧ Below wr.heap.size wr wx)
      case first =>
        as_aux_lemma =>
          by_cases h : kd = 2
          · have HC : VlC kd vl vl := .inl ⟨h, rfl⟩
            have q : (kd != 2) = false := by rw [h]; rfl
            clear h
            go_wp2_with fail
            go_meet
            exact ⟨vl, y5, HC, b5⟩
          · have HC : VlC kd vl 0 := .inr ⟨h, rfl⟩
            have q : (kd != 2) = true := by simpa using h
            obtain ⟨⟨d0, d1, d2, d3, d4, d5, d6⟩, f0, f1, f2, f3, f4, f5, f6⟩ := y5.seven
            have K := Lib.hid (HKp.out _ _ 6 (.int .i64 0) y5 b5)
            clear h y5 b5
            go_wp2_with fail
            go_meet
            exact ⟨0, K.out.1, HC, K.out.2⟩
      case rest =>
      obtain ⟨vl', y6, HC5, b6⟩ := hcut
      obtain ⟨w6, rfl⟩ : ∃ x, x = wc := ⟨_, rfl⟩
      clear c0 c1 c2 c3 c4 c5 c6
      have HFi := Lib.hid (fieldsOk_iff (ps := ps) HC1 HC2 HC3 HC4 HC5)
      obtain ⟨c0, c1, c2, c3, c4, c5, c6⟩ := HCe.out w6 b6
      obtain ⟨⟨d0, d1, d2, d3, d4, d5, d6⟩, _⟩ := y6.seven
      have BF := HB1.out.trans ((show Below W1.heap.size W1 w6 from HBk2.out.trans (b6.mono hsz)).mono HB1.out.size)
      have HO6 : Hid (Has w6 R k (partWs pre ws ps)) := HO2.out.has.keep' b6 (fun ad e => (HO2.out.born ad e).2)
      clear y5 b5 y6
      obtain ⟨pk, hpk⟩ : ∃ q, partsK kd = q := ⟨_, rfl⟩
      rw [hpk] at HFi
      have HPk : Hid (∀ W : World, Calls Tryd.prog 107 #[.int .i64 kd] W fun e w' => e = .returned (.int .i64 pk) ∧ W = w') := fun W => by rw [← hpk]; exact laParts_any kd W
      have HPk0 := Lib.hid hpk
      clear hpk
      go_upto_region 23 with fail
      go_cut [125] (fun v wx => ∃ t : Bool, v = .bool t ∧ BadF ⟨kd, nm, o, ps, py, wd, vl⟩ t ∧ w6 = wx)
      case first =>
        as_aux_lemma =>
          obtain ⟨t0, h0⟩ : ∃ t, same nm' nm = t := ⟨_, rfl⟩
          cases t0 with
          | false =>
            have q0 : ¬ nm'.toList = nm.toList := fun e => by rw [same, e] at h0; simp at h0
            have HC : BadF ⟨kd, nm, o, ps, py, wd, vl⟩ true := by
              show _ = _
              cases hf : fieldsOk ⟨kd, nm, o, ps, py, wd, vl⟩ with
              | false => rfl
              | true =>
                have e := (same_iff _ _).2 (HFi.out.1 hf).1
                rw [h0] at e
                cases e
            clear h0
            go_wp2_with fail
            go_meet
            exact ⟨_, rfl, HC, rfl⟩
          | true =>
            obtain rfl : nm = nm' := ((same_iff _ _).1 h0).symm
            obtain ⟨t1, h1⟩ : ∃ t, same o' o = t := ⟨_, rfl⟩
            cases t1 with
            | false =>
              have q1 : ¬ o'.toList = o.toList := fun e => by rw [same, e] at h1; simp at h1
              have HC : BadF ⟨kd, nm, o, ps, py, wd, vl⟩ true := by
                show _ = _
                cases hf : fieldsOk ⟨kd, nm, o, ps, py, wd, vl⟩ with
                | false => rfl
                | true =>
                  have e := (same_iff _ _).2 (HFi.out.1 hf).2.1
                  rw [h1] at e
                  cases e
              clear h0 h1
              go_wp2_with fail
              go_meet
              exact ⟨_, rfl, HC, rfl⟩
            | true =>
              obtain rfl : o = o' := ((same_iff _ _).1 h1).symm
              by_cases h2 : py' = py
              rotate_left
              · have q2 : (py' != py) = true := by simpa using h2
                have HC : BadF ⟨kd, nm, o, ps, py, wd, vl⟩ true := by
                  show _ = _
                  cases hf : fieldsOk ⟨kd, nm, o, ps, py, wd, vl⟩ with
                  | false => rfl
                  | true =>
                    exact absurd (HFi.out.1 hf).2.2.1 h2
                clear h0 h1
                go_wp2_with fail
                go_meet
                exact ⟨_, rfl, HC, rfl⟩
              obtain rfl : py = py' := h2.symm
              by_cases h3 : wd' = wd
              rotate_left
              · have q3 : (wd' != wd) = true := by simpa using h3
                have HC : BadF ⟨kd, nm, o, ps, py, wd, vl⟩ true := by
                  show _ = _
                  cases hf : fieldsOk ⟨kd, nm, o, ps, py, wd, vl⟩ with
                  | false => rfl
                  | true =>
                    exact absurd (HFi.out.1 hf).2.2.2.1 h3
                clear h0 h1
                go_wp2_with fail
                go_meet
                exact ⟨_, rfl, HC, rfl⟩
              obtain rfl : wd = wd' := h3.symm
              by_cases h4 : vl' = vl
              rotate_left
              · have q4 : (vl' != vl) = true := by simpa using h4
                have HC : BadF ⟨kd, nm, o, ps, py, wd, vl⟩ true := by
                  show _ = _
                  cases hf : fieldsOk ⟨kd, nm, o, ps, py, wd, vl⟩ with
                  | false => rfl
                  | true =>
                    exact absurd (HFi.out.1 hf).2.2.2.2.1 h4
                clear h0 h1
                go_wp2_with fail
                go_meet
                exact ⟨_, rfl, HC, rfl⟩
              obtain rfl : vl = vl' := h4.symm
              by_cases h5 : (k : Int) = pk
              rotate_left
              · have q5 : ((k : Int) != pk) = true := by simpa using h5
                have HC : BadF ⟨kd, nm, o, ps, py, wd, vl⟩ true := by
                  show _ = _
                  cases hf : fieldsOk ⟨kd, nm, o, ps, py, wd, vl⟩ with
                  | false => rfl
                  | true =>
                    have hl := HM.out
                    have e := (HFi.out.1 hf).2.2.2.2.2
                    rw [hl] at e
                    exact absurd e h5
                clear h0 h1
                go_wp2_with fail
                refine (HPk.out _).mono ?_
                rintro e w' ⟨rfl, rfl⟩
                go_wp2_with fail
                go_meet
                exact ⟨_, rfl, HC, rfl⟩
              obtain rfl : (k : Int) = pk := h5
              have HC : BadF ⟨kd, nm, o, ps, py, wd, vl⟩ false := by
                show _ = _
                have hl := HM.out
                have e := HFi.out.2 ⟨(same_iff _ _).1 h0, (same_iff _ _).1 h1, rfl, rfl, rfl, by rw [hl]⟩
                rw [e]; rfl
              clear h0 h1
              go_wp2_with fail
              refine (HPk.out _).mono ?_
              rintro e w' ⟨rfl, rfl⟩
              go_wp2_with fail
              go_meet
              exact ⟨_, rfl, HC, rfl⟩
      case rest =>
      obtain ⟨bt, rfl, HBd, hwx⟩ := hcut
      obtain ⟨w7, rfl⟩ : ∃ x, x = wc := ⟨_, rfl⟩
      subst hwx
      cases bt with
      | true =>
        have HF : Hid (widthL pre ws ⟨kd, nm, o, ps, py, wd, vl⟩ = 0) := by
          show _ = _
          have hf : fieldsOk ⟨kd, nm, o, ps, py, wd, vl⟩ = false := by have := HBd; unfold BadF at this; simpa using this.symm
          rw [widthL]
          repeat' split
          all_goals first
            | rfl
            | (rename_i hq; exact absurd hf hq)
        go_wp2_with fail
        go_ret
        exact ⟨retI HF.out.symm, BF⟩
      | false =>
        have HF : Hid (widthL pre ws ⟨kd, nm, o, ps, py, wd, vl⟩ = widthK ⟨kd, nm, o, ps, py, wd, vl⟩ (partWs pre ws ps)) := by
          show _ = _
          have hf : fieldsOk ⟨kd, nm, o, ps, py, wd, vl⟩ = true := by have := HBd; unfold BadF at this; simpa using this.symm
          rw [widthL, if_neg (by rw [HPs.out]; simp), if_neg, if_neg (by rw [hf]; simp)]
          rintro ⟨a, b⟩
          rcases HC1 with ⟨c, _⟩ | ⟨_, _, c, d⟩
          · exact a c
          · rcases b with b | b
            · rw [c] at b; cases b
            · exact absurd b (by show ¬ 0 ≤ findL pre nm; omega)
        have HLen : Hid ((k : Int) = pk) := by
          show _ = _
          have hf : fieldsOk ⟨kd, nm, o, ps, py, wd, vl⟩ = true := by have := HBd; unfold BadF at this; simpa using this.symm
          have e := (HFi.out.1 hf).2.2.2.2.2
          rw [HM.out] at e
          exact e
        clear d0 d1 d2 d3 d4 d5 d6 HFi
        clear HBd HC1 HC2 HC3 HC4 HC5 b6 HCe HKp
        by_cases e1 : kd = 1
        · as_aux_lemma =>
            subst e1
            by_cases hp : 0 ≤ py ∧ py ≤ 1
            · by_cases hw : 1 ≤ wd ∧ wd ≤ 10
              · have HR : Hid (widthL pre ws ⟨1, nm, o, ps, py, wd, vl⟩ = wd) := by show _ = _; rw [HF.out, widthK, if_pos rfl, if_pos ⟨hp, hw⟩]
                have I1 := Lib.hid (l1In_any py 0 1 true w6 (by simpa using hp))
                have I2 := Lib.hid (l1In_any wd 1 10 true w6 (by simpa using hw))
                clear hp hw
                go_wp2_with fail
                refine (I1.out).mono ?_
                rintro e w' ⟨rfl, rfl⟩
                go_wp2_with fail
                refine (I2.out).mono ?_
                rintro e w' ⟨rfl, rfl⟩
                go_wp2_with fail
                go_ret
                exact ⟨retI HR.out.symm, BF⟩
              · have HR : Hid (widthL pre ws ⟨1, nm, o, ps, py, wd, vl⟩ = 0) := by show _ = _; rw [HF.out, widthK, if_pos rfl, if_neg (fun h => hw h.2)]
                have I1 := Lib.hid (l1In_any py 0 1 true w6 (by simpa using hp))
                have I2 := Lib.hid (l1In_any wd 1 10 false w6 (by simpa using hw))
                clear hp hw
                go_wp2_with fail
                refine (I1.out).mono ?_
                rintro e w' ⟨rfl, rfl⟩
                go_wp2_with fail
                refine (I2.out).mono ?_
                rintro e w' ⟨rfl, rfl⟩
                go_wp2_with fail
                go_ret
                exact ⟨retI HR.out.symm, BF⟩
            · have HR : Hid (widthL pre ws ⟨1, nm, o, ps, py, wd, vl⟩ = 0) := by show _ = _; rw [HF.out, widthK, if_pos rfl, if_neg (fun h => hp h.1)]
              have I1 := Lib.hid (l1In_any py 0 1 false w6 (by simpa using hp))
              clear hp
              go_wp2_with fail
              refine (I1.out).mono ?_
              rintro e w' ⟨rfl, rfl⟩
              go_wp2_with fail
              go_ret
              exact ⟨retI HR.out.symm, BF⟩
        have q1 : (kd == 1) = false := by simpa using e1
        by_cases e2 : kd = 2
        · as_aux_lemma =>
            subst e2
            by_cases hw : 1 ≤ wd ∧ wd ≤ 10
            · obtain ⟨p, rfl⟩ : ∃ p : Nat, wd = (p : Int) := ⟨wd.toNat, by omega⟩
              have p2 := HPow.out p (by omega)
              obtain ⟨bv, hbv⟩ : ∃ b, (decide (0 ≤ vl) && decide (vl ≤ 2 ^ p - 1)) = b := ⟨_, rfl⟩
              have I1 := Lib.hid (l1In_any (p : Int) 1 10 true w6 (by simpa using hw))
              have I2 := Lib.hid (l1In_any vl 0 (2 ^ p - 1) bv w6 hbv)
              have HBv := Lib.hid hbv
              obtain ⟨hw1, hw2⟩ := hw
              clear hbv
              cases bv with
              | true =>
                have HR : Hid (widthL pre ws ⟨2, nm, o, ps, py, (p : Int), vl⟩ = (p : Int)) := by
                  show _ = _
                  have h := HBv.out
                  simp only [Bool.and_eq_true, decide_eq_true_eq] at h
                  rw [HF.out, widthK, if_neg (by simp), if_pos rfl, if_pos ⟨⟨hw1, hw2⟩, by simpa using h⟩]
                go_wp2_with fail
                refine (I1.out).mono ?_
                rintro e w' ⟨rfl, rfl⟩
                go_wp2_with fail
                refine (I2.out).mono ?_
                rintro e w' ⟨rfl, rfl⟩
                go_wp2_with fail
                go_ret
                exact ⟨retI HR.out.symm, BF⟩
              | false =>
                have HR : Hid (widthL pre ws ⟨2, nm, o, ps, py, (p : Int), vl⟩ = 0) := by
                  show _ = _
                  have h := HBv.out
                  rw [HF.out, widthK, if_neg (by simp), if_pos rfl, if_neg]
                  rintro ⟨_, h1, h2⟩
                  simp only [Bool.and_eq_false_iff, decide_eq_false_iff_not] at h
                  rcases h with h | h
                  · exact h h1
                  · exact h (by simpa using h2)
                go_wp2_with fail
                refine (I1.out).mono ?_
                rintro e w' ⟨rfl, rfl⟩
                go_wp2_with fail
                refine (I2.out).mono ?_
                rintro e w' ⟨rfl, rfl⟩
                go_wp2_with fail
                go_ret
                exact ⟨retI HR.out.symm, BF⟩
            · have HR : Hid (widthL pre ws ⟨2, nm, o, ps, py, wd, vl⟩ = 0) := by show _ = _; rw [HF.out, widthK, if_neg (by simp), if_pos rfl, if_neg (fun h => hw h.1)]
              have I1 := Lib.hid (l1In_any wd 1 10 false w6 (by simpa using hw))
              clear hw
              go_wp2_with fail
              refine (I1.out).mono ?_
              rintro e w' ⟨rfl, rfl⟩
              go_wp2_with fail
              go_ret
              exact ⟨retI HR.out.symm, BF⟩
        have q2 : (kd == 2) = false := by simpa using e2
        by_cases e3 : kd = 3
        · as_aux_lemma =>
            subst e3
            obtain rfl : k = 2 := by have h1 := HLen.out; have h2 := HPk0.out; rw [show partsK 3 = 2 from rfl] at h2; omega
            obtain ⟨g, rfl⟩ := HO2.out.spot (by omega)
            obtain ⟨a0, z0, e0, hc0, HZ0⟩ := HO6.out.elem (k := 0) (by omega)
            obtain ⟨a1, z1, e1', hc1, HZ1⟩ := HO6.out.elem (k := 1) (by omega)
            obtain rfl : a0 = ⟨g, 0, none⟩ := by injection e0 with e0; exact e0.symm
            obtain rfl : a1 = ⟨g, 0, none⟩ := by injection e1' with e1'; exact e1'.symm
            rw [addNone'] at hc0 hc1
            have hz : ∀ j, 0 ≤ (partWs pre ws ps).getD j 0 ∧ (partWs pre ws ps).getD j 0 ≤ 10 := getD_map_range (by omega) fun p _ => HWs.out _
            have r0 := hz 0
            have r1 := hz 1
            rw [← HZ0.out] at r0
            rw [← HZ1.out] at r1
            have HT := Lib.hid (laTwo_any o z0 z1 w6.drew r0 r1)
            have HR : Hid (twoW o z0 z1 = widthL pre ws ⟨3, nm, o, ps, py, wd, vl⟩) := by
              show _ = _
              rw [HF.out, widthK, if_neg (by simp), if_neg (by simp), if_pos rfl, HZ0.out, HZ1.out]
            clear hz r0 r1 e0 e1'
            go_wp2_with fail
            go_still_tail 8, (by kernel_rfl)
            go_wp2_with fail
            refine (HT.out).mono ?_
            rintro e w8 ⟨rfl, b8⟩
            have BF2 := BF.drew.trans (b8.mono BF.drew.size)
            go_wp2_with fail
            go_ret
            exact ⟨retI HR.out, BF2⟩
        have q3 : (kd == 3) = false := by simpa using e3
        by_cases e46 : kd = 4 ∨ kd = 6
        · as_aux_lemma =>
            have hk1 : k = 1 := by
              have h1 := HLen.out
              have h2 := HPk0.out
              rw [partsK, if_neg e3, if_pos e46] at h2
              omega
            subst hk1
            obtain ⟨g, rfl⟩ := HO2.out.spot (by omega)
            obtain ⟨a0, z0, e0, hc0, HZ0⟩ := HO6.out.elem (k := 0) (by omega)
            obtain rfl : a0 = ⟨g, 0, none⟩ := by injection e0 with e0; exact e0.symm
            rw [addNone'] at hc0
            have HR : Hid (z0 = widthL pre ws ⟨kd, nm, o, ps, py, wd, vl⟩) := by
              show _ = _
              rw [HF.out, widthK, if_neg e1, if_neg e2, if_neg e3, if_pos e46, HZ0.out]
            clear e0
            rcases e46 with rfl | rfl
            · clear e1 e2 e3
              go_wp2_with fail
              go_ret
              exact ⟨retI HR.out, BF⟩
            · clear e1 e2 e3
              go_wp2_with fail
              go_ret
              exact ⟨retI HR.out, BF⟩
        have e4 : ¬ kd = 4 := fun h => e46 (.inl h)
        have e6 : ¬ kd = 6 := fun h => e46 (.inr h)
        have q4 : (kd == 4) = false := by simpa using e4
        have q6 : (kd == 6) = false := by simpa using e6
        by_cases e5 : kd = 5
        · as_aux_lemma =>
            subst e5
            obtain rfl : k = 3 := by have h1 := HLen.out; have h2 := HPk0.out; rw [show partsK 5 = 3 from rfl] at h2; omega
            obtain ⟨g, rfl⟩ := HO2.out.spot (by omega)
            obtain ⟨a0, z0, e0, hc0, HZ0⟩ := HO6.out.elem (k := 0) (by omega)
            obtain ⟨a1, z1, e1', hc1, HZ1⟩ := HO6.out.elem (k := 1) (by omega)
            obtain ⟨a2, z2, e2', hc2, HZ2⟩ := HO6.out.elem (k := 2) (by omega)
            obtain rfl : a0 = ⟨g, 0, none⟩ := by injection e0 with e0; exact e0.symm
            obtain rfl : a1 = ⟨g, 0, none⟩ := by injection e1' with e1'; exact e1'.symm
            obtain rfl : a2 = ⟨g, 0, none⟩ := by injection e2' with e2'; exact e2'.symm
            rw [addNone'] at hc0 hc1 hc2
            have HW5 : Hid (widthL pre ws ⟨5, nm, o, ps, py, wd, vl⟩ = if z0 = 1 ∧ z1 = z2 then z1 else 0) := by
              show _ = _
              rw [HF.out, widthK, if_neg (by simp), if_neg (by simp), if_neg (by simp), if_neg (by simp), if_pos rfl, HZ0.out, HZ1.out, HZ2.out]
            clear e0 e1' e2' HZ0 HZ1 HZ2 e1 e2 e3 e4 e6 e46 q1 q2 q3 q4 q6
            by_cases h1 : z0 = 1
            · subst h1
              by_cases h2 : z1 = z2
              · subst h2
                have HR : Hid (widthL pre ws ⟨5, nm, o, ps, py, wd, vl⟩ = z1) := by show _ = _; rw [HW5.out, if_pos ⟨rfl, rfl⟩]
                go_wp2_with fail
                go_quiet (fail)
                have BF2 := below_drewN BF
                go_wp2_with fail
                go_ret
                exact ⟨retI HR.out.symm, BF2 _⟩
              · have HR : Hid (widthL pre ws ⟨5, nm, o, ps, py, wd, vl⟩ = 0) := by show _ = _; rw [HW5.out, if_neg (fun h => h2 h.2)]
                have qz : (z1 == z2) = false := by simpa using h2
                go_wp2_with fail
                go_quiet (fail)
                have BF2 := below_drewN BF
                go_wp2_with fail
                go_ret
                exact ⟨retI HR.out.symm, BF2 _⟩
            · have HR : Hid (widthL pre ws ⟨5, nm, o, ps, py, wd, vl⟩ = 0) := by show _ = _; rw [HW5.out, if_neg (fun h => h1 h.1)]
              have qz : (z0 == 1) = false := by simpa using h1
              go_wp2_with fail
              go_quiet (fail)
              have BF2 := below_drewN BF
              go_wp2_with fail
              go_ret
              exact ⟨retI HR.out.symm, BF2 _⟩
        have q5 : (kd == 5) = false := by simpa using e5
        have HR : Hid (widthL pre ws ⟨kd, nm, o, ps, py, wd, vl⟩ = 0) := by
          show _ = _
          rw [HF.out, widthK, if_neg e1, if_neg e2, if_neg e3, if_neg e46, if_neg e5]
        clear e1 e2 e3 e4 e5 e6 e46
        go_wp2_with fail
        go_ret
        exact ⟨retI HR.out.symm, BF⟩

end Go.Proofs.YtcbofogmfelpkaaDoor
