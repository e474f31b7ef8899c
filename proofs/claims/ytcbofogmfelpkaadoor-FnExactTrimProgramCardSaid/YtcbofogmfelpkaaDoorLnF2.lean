/- Widths of names, inputs and results: the model's functions and the program's. For lists of at most 1048576 lines. -/
import Derived.Test.YtcbofogmfelpkaaDoorLnF1
import Derived.Test.YtcbofogmfelpkaaDoorLnM4
import Derived.Test.YtcbofogmfelpkaaDoorLnG5
namespace Go.Proofs.YtcbofogmfelpkaaDoor
open Go Go.RowKit
set_option maxRecDepth 100000

def m_WidthOfName (ls : List Ln) (s : ByteArray) : Int × Bool := if goodP ls = true ∧ 0 ≤ findL ls s then ((widths ls).getD (findL ls s).toNat 0, true) else (0, false)
def m_InputWidths (ls : List Ln) (p : Int) : List Int × Bool := if goodP ls = true ∧ (0 ≤ p ∧ p ≤ 1) then (inputsOf p ls, true) else ([], false)
def m_OutWidths (ls : List Ln) : List Int × Bool := if goodP ls = true then (outsOf ls (widths ls), true) else ([], false)

/-- What a good program's parts are. -/
theorem good_parts {ls : List Ln} (h : goodP ls = true) : ls.length ≤ 30 ∧ ls.all lineOk = true ∧ namesGiven ls = true ∧ progW ls = widths ls ∧ allIn 1 10 (widths ls) = true ∧ (outsOf ls (widths ls)).length ≤ 10 ∧ (inputsOf 0 ls).sum ≤ 20 ∧ (inputsOf 1 ls).sum ≤ 20 := by
  have h0 := h
  rw [goodP] at h0
  simp only [Bool.and_eq_true, decide_eq_true_eq] at h0
  obtain ⟨⟨⟨⟨a, b⟩, c⟩, d⟩, e⟩ := h0
  obtain ⟨h1, h2⟩ := goods_back b
  exact ⟨a, h1, h2, progW_widths h1 h2, b, e, c, d⟩

set_option maxRecDepth 100000 in
set_option maxHeartbeats 2000000 in
theorem spec_InputWidths (A : Option Addr) (n c : Nat) (ls : List Ln) (p : Int) (rs : List Int) (rb : Bool) (w : World) (h : HasL w A n ls) (hn : n ≤ 1048576) (hnc : n ≤ c) (hz : ∀ j, j < n → FitL (lnAt ls j)) (_hp : I64 p) (hm : m_InputWidths ls p = (rs, rb)) :
    Calls Tryd.prog 19 #[.slice A n c, .int .i64 p] w fun e w' => ∃ R m c', e = .returned (.tuple #[.slice R m c', .bool rb]) ∧ Has w' R m rs ∧ m ≤ 16777216 ∧ Below w.heap.size w w' := by
  have HG := Lib.hid (laGood_any A n c ls w h hn hnc hz)
  have HH := Lib.hid h
  have HM := Lib.hid hm
  clear h hz hm
  obtain ⟨b, hb⟩ : ∃ b, goodP ls = b := ⟨_, rfl⟩
  rw [hb] at HG
  have HGo := Lib.hid hb
  clear hb
  obtain ⟨b2, hb2⟩ : ∃ b2, (decide ((0 : Int) ≤ p) && decide (p ≤ 1)) = b2 := ⟨_, rfl⟩
  have HI := Lib.hid (fun W => l1In_any p 0 1 b2 W hb2)
  have HP : Hid ((0 ≤ p ∧ p ≤ 1) ↔ b2 = true) := by show _ ↔ _; rw [← hb2]; simp
  clear hb2
  cases b with
  | false =>
    have e := HM.out
    rw [m_InputWidths, if_neg (by rw [HGo.out]; simp)] at e
    obtain ⟨rfl, rfl⟩ := Prod.mk.inj e
    clear e
    go_enter Tryd.func19, Tryd.ntmps19
    go_wp2_with fail
    refine (HG.out).mono ?_
    rintro e w2 ⟨rfl, b2⟩
    have HB2 := Lib.hid b2
    clear b2
    go_wp2_with fail
    go_ret2
    exact ⟨none, 0, 0, rfl, Has.nil_, by omega, HB2.out⟩
  | true =>
    cases b2 with
    | false =>
      have e := HM.out
      rw [m_InputWidths, if_neg (by rw [HP.out]; simp)] at e
      obtain ⟨rfl, rfl⟩ := Prod.mk.inj e
      clear e
      go_enter Tryd.func19, Tryd.ntmps19
      go_wp2_with fail
      refine (HG.out).mono ?_
      rintro e w2 ⟨rfl, b2⟩
      have HB2 := Lib.hid b2
      clear b2
      go_wp2_with fail
      refine (HI.out _).mono ?_
      rintro e w3 ⟨rfl, rfl⟩
      go_wp2_with fail
      go_ret2
      exact ⟨none, 0, 0, rfl, Has.nil_, by omega, HB2.out⟩
    | true =>
      have e := HM.out
      rw [m_InputWidths, if_pos ⟨HGo.out, HP.out.2 rfl⟩] at e
      obtain ⟨e1, rfl⟩ := Prod.mk.inj e
      have HR := Lib.hid e1
      clear e e1
      go_enter Tryd.func19, Tryd.ntmps19
      go_wp2_with fail
      refine (HG.out).mono ?_
      rintro e w2 ⟨rfl, b2⟩
      have HB2 := Lib.hid b2
      clear b2
      go_wp2_with fail
      refine (HI.out _).mono ?_
      rintro e w3 ⟨rfl, rfl⟩
      go_wp2_with fail
      refine (laInputs_any A n c ls p w2 (HH.out.below HB2.out) (by omega)).mono ?_
      rintro e w4 ⟨R4, m4, c4, rfl, o4, hm4, b4⟩
      have HB4 := Lib.hid (HB2.out.trans (b4.mono HB2.out.size))
      have HO := Lib.hid o4.has
      clear o4 b4
      go_wp2_with fail
      go_ret2
      exact ⟨R4, m4, c4, rfl, by rw [← HR.out]; exact HO.out, by omega, HB4.out⟩

set_option maxRecDepth 100000 in
set_option maxHeartbeats 2000000 in
theorem impl_InputWidths (A : Option Addr) (n c : Nat) (ls : List Ln) (p : Int) (rs : List Int) (rb : Bool) (w : World) (h : HasL w A n ls) (hn : n ≤ 1048576) (_hnc : n ≤ c) (hz : ∀ j, j < n → FitL (lnAt ls j)) (_hp : I64 p) (hF : Forms w) (hW : OpWords w) (hm : m_InputWidths ls p = (rs, rb)) :
    Calls Tryd.prog 20 #[.slice A n c, .int .i64 p] w fun e w' => ∃ R m c', e = .returned (.tuple #[.slice R m c', .bool rb]) ∧ Own w' w.heap.size R m c' rs ∧ m ≤ 16777216 ∧ Below w.heap.size w w' := by
  have HG := Lib.hid (implIsProgram_any A n c ls w h hn hz hF hW)
  rw [good_same] at HG
  have HH := Lib.hid h
  have HM := Lib.hid hm
  clear h hz hm hF hW
  obtain ⟨b, hb⟩ : ∃ b, goodP ls = b := ⟨_, rfl⟩
  rw [hb] at HG
  have HGo := Lib.hid hb
  clear hb
  obtain ⟨b2, hb2⟩ : ∃ b2, (decide ((0 : Int) ≤ p) && decide (p < 2)) = b2 := ⟨_, rfl⟩
  have HI := Lib.hid (fun W => isBelowL_any p 2 b2 W hb2)
  have HP : Hid ((0 ≤ p ∧ p ≤ 1) ↔ b2 = true) := by show _ ↔ _; rw [← hb2]; simp; omega
  clear hb2
  cases b with
  | false =>
    have e := HM.out
    rw [m_InputWidths, if_neg (by rw [HGo.out]; simp)] at e
    obtain ⟨rfl, rfl⟩ := Prod.mk.inj e
    clear e
    go_enter Tryd.func20, Tryd.ntmps20
    go_wp2_with fail
    refine (HG.out).mono ?_
    rintro e w2 ⟨rfl, b2⟩
    have HB2 := Lib.hid b2
    clear b2
    go_wp2_with fail
    go_ret2
    exact ⟨none, 0, 0, rfl, Own.nil_ _ _, by omega, HB2.out⟩
  | true =>
    cases b2 with
    | false =>
      have e := HM.out
      rw [m_InputWidths, if_neg (by rw [HP.out]; simp)] at e
      obtain ⟨rfl, rfl⟩ := Prod.mk.inj e
      clear e
      go_enter Tryd.func20, Tryd.ntmps20
      go_wp2_with fail
      refine (HG.out).mono ?_
      rintro e w2 ⟨rfl, b2⟩
      have HB2 := Lib.hid b2
      clear b2
      go_wp2_with fail
      refine (HI.out _).mono ?_
      rintro e w3 ⟨rfl, rfl⟩
      go_wp2_with fail
      go_ret2
      exact ⟨none, 0, 0, rfl, Own.nil_ _ _, by omega, HB2.out⟩
    | true =>
      have e := HM.out
      rw [m_InputWidths, if_pos ⟨HGo.out, HP.out.2 rfl⟩] at e
      obtain ⟨e1, rfl⟩ := Prod.mk.inj e
      have HR := Lib.hid e1
      clear e e1
      go_enter Tryd.func20, Tryd.ntmps20
      go_wp2_with fail
      refine (HG.out).mono ?_
      rintro e w2 ⟨rfl, b2⟩
      have HB2 := Lib.hid b2
      clear b2
      go_wp2_with fail
      refine (HI.out _).mono ?_
      rintro e w3 ⟨rfl, rfl⟩
      go_wp2_with fail
      refine (inputWidths_any A n c ls p w2 (HH.out.below HB2.out) hn).mono ?_
      rintro e w4 ⟨R4, m4, c4, rfl, o4, hm4, b4⟩
      have HB4 := Lib.hid (HB2.out.trans (b4.mono HB2.out.size))
      have HO := Lib.hid (o4.mono HB2.out.size)
      clear o4 b4
      go_wp2_with fail
      go_ret2
      exact ⟨R4, m4, c4, rfl, by rw [← HR.out]; exact HO.out, by omega, HB4.out⟩

set_option maxRecDepth 100000 in
set_option maxHeartbeats 2000000 in
theorem spec_OutWidths (A : Option Addr) (n c : Nat) (ls : List Ln) (rs : List Int) (rb : Bool) (w : World) (h : HasL w A n ls) (hn : n ≤ 1048576) (hnc : n ≤ c) (hz : ∀ j, j < n → FitL (lnAt ls j)) (hm : m_OutWidths ls = (rs, rb)) :
    Calls Tryd.prog 25 #[.slice A n c] w fun e w' => ∃ R m c', e = .returned (.tuple #[.slice R m c', .bool rb]) ∧ Has w' R m rs ∧ m ≤ 16777216 ∧ Below w.heap.size w w' := by
  have HG := Lib.hid (laGood_any A n c ls w h hn hnc hz)
  have HH := Lib.hid h
  have HZ := Lib.hid hz
  have HM := Lib.hid hm
  clear h hz hm
  obtain ⟨b, hb⟩ : ∃ b, goodP ls = b := ⟨_, rfl⟩
  rw [hb] at HG
  have HGo := Lib.hid hb
  clear hb
  cases b with
  | false =>
    have e := HM.out
    rw [m_OutWidths, if_neg (by rw [HGo.out]; simp)] at e
    obtain ⟨rfl, rfl⟩ := Prod.mk.inj e
    clear e
    go_enter Tryd.func25, Tryd.ntmps25
    go_wp2_with fail
    refine (HG.out).mono ?_
    rintro e w2 ⟨rfl, b2⟩
    have HB2 := Lib.hid b2
    clear b2
    go_wp2_with fail
    go_ret2
    exact ⟨none, 0, 0, rfl, Has.nil_, by omega, HB2.out⟩
  | true =>
    have e := HM.out
    rw [m_OutWidths, if_pos HGo.out] at e
    obtain ⟨e1, rfl⟩ := Prod.mk.inj e
    have HR := Lib.hid e1
    clear e e1
    go_enter Tryd.func25, Tryd.ntmps25
    go_wp2_with fail
    refine (HG.out).mono ?_
    rintro e w2 ⟨rfl, b2⟩
    have HB2 := Lib.hid b2
    clear b2
    go_wp2_with fail
    refine (laOuts_any A n c ls w2 (HH.out.below HB2.out) hn hnc HZ.out).mono ?_
    rintro e w4 ⟨R4, m4, c4, rfl, o4, hm4, b4⟩
    have HB4 := Lib.hid (HB2.out.trans (b4.mono HB2.out.size))
    have HO := Lib.hid o4.has
    clear o4 b4
    go_wp2_with fail
    go_ret2
    exact ⟨R4, m4, c4, rfl, by rw [← HR.out]; exact HO.out, by omega, HB4.out⟩

set_option maxRecDepth 100000 in
set_option maxHeartbeats 2000000 in
theorem impl_OutWidths (A : Option Addr) (n c : Nat) (ls : List Ln) (rs : List Int) (rb : Bool) (w : World) (h : HasL w A n ls) (hn : n ≤ 1048576) (_hnc : n ≤ c) (hz : ∀ j, j < n → FitL (lnAt ls j)) (hF : Forms w) (hW : OpWords w) (hm : m_OutWidths ls = (rs, rb)) :
    Calls Tryd.prog 26 #[.slice A n c] w fun e w' => ∃ R m c', e = .returned (.tuple #[.slice R m c', .bool rb]) ∧ Own w' w.heap.size R m c' rs ∧ m ≤ 16777216 ∧ Below w.heap.size w w' := by
  have HG := Lib.hid (implIsProgram_any A n c ls w h hn hz hF hW)
  rw [good_same] at HG
  have HH := Lib.hid h
  have HZ := Lib.hid hz
  have HWo := Lib.hid hW
  have HM := Lib.hid hm
  clear h hz hm hF hW
  obtain ⟨b, hb⟩ : ∃ b, goodP ls = b := ⟨_, rfl⟩
  rw [hb] at HG
  have HGo := Lib.hid hb
  clear hb
  cases b with
  | false =>
    have e := HM.out
    rw [m_OutWidths, if_neg (by rw [HGo.out]; simp)] at e
    obtain ⟨rfl, rfl⟩ := Prod.mk.inj e
    clear e
    go_enter Tryd.func26, Tryd.ntmps26
    go_wp2_with fail
    refine (HG.out).mono ?_
    rintro e w2 ⟨rfl, b2⟩
    have HB2 := Lib.hid b2
    clear b2
    go_wp2_with fail
    go_ret2
    exact ⟨none, 0, 0, rfl, Own.nil_ _ _, by omega, HB2.out⟩
  | true =>
    have e := HM.out
    rw [m_OutWidths, if_pos HGo.out] at e
    obtain ⟨e1, rfl⟩ := Prod.mk.inj e
    have HR := Lib.hid e1
    clear e e1
    have HQ := Lib.hid (good_parts HGo.out)
    go_enter Tryd.func26, Tryd.ntmps26
    go_wp2_with fail
    refine (HG.out).mono ?_
    rintro e w2 ⟨rfl, b2⟩
    have HB2 := Lib.hid b2
    clear b2
    go_wp2_with fail
    refine (widthsByLine_any A n c ls w2 (HH.out.below HB2.out) hn HZ.out HQ.out.2.1 HQ.out.2.2.1 (HWo.out.below HB2.out)).mono ?_
    rintro e w3 ⟨g, rfl, o3, b3⟩
    have HB3 := Lib.hid (HB2.out.trans (b3.mono HB2.out.size))
    have HU := Lib.hid o3.has
    clear o3 b3
    go_wp2_with fail
    refine (atLinesOut_any A n c ls (some ⟨g, 0, none⟩) n (progW ls) w3 (HH.out.below HB3.out) hn HU.out).mono ?_
    rintro e w4 ⟨R4, m4, c4, rfl, o4, hm4, b4⟩
    have HB4 := Lib.hid (HB3.out.trans (b4.mono HB3.out.size))
    have HO := Lib.hid (o4.mono HB3.out.size)
    clear o4 b4
    go_wp2_with fail
    go_ret2
    exact ⟨R4, m4, c4, rfl, by rw [← HR.out, ← HQ.out.2.2.2.1]; exact HO.out, by omega, HB4.out⟩

set_option maxRecDepth 100000 in
set_option maxHeartbeats 2000000 in
theorem spec_WidthOfName (A : Option Addr) (n c : Nat) (ls : List Ln) (s : ByteArray) (ry : Int) (rb : Bool) (w : World) (h : HasL w A n ls) (hn : n ≤ 1048576) (hnc : n ≤ c) (hz : ∀ j, j < n → FitL (lnAt ls j)) (_hs : s.size ≤ 1048576) (hm : m_WidthOfName ls s = (ry, rb)) :
    Calls Tryd.prog 17 #[.slice A n c, .string s] w fun e w' => e = .returned (.tuple #[.int .i64 ry, .bool rb]) ∧ Below w.heap.size w w' := by
  have HG := Lib.hid (laGood_any A n c ls w h hn hnc hz)
  have HH := Lib.hid h
  have HL : Hid (ls.length = n) := h.1
  have HZ := Lib.hid hz
  have HM := Lib.hid hm
  clear h hz hm
  obtain ⟨b, hb⟩ : ∃ b, goodP ls = b := ⟨_, rfl⟩
  rw [hb] at HG
  have HGo := Lib.hid hb
  clear hb
  obtain ⟨f, hf⟩ : ∃ f, findL ls s = f := ⟨_, rfl⟩
  have HFd := Lib.hid hf
  have HFi := Lib.hid (fun W hW => laFind_any A n c ls s W hW (by omega))
  rw [hf] at HFi
  clear hf
  cases b with
  | false =>
    have e := HM.out
    rw [m_WidthOfName, if_neg (by rw [HGo.out]; simp)] at e
    obtain ⟨rfl, rfl⟩ := Prod.mk.inj e
    clear e
    go_enter Tryd.func17, Tryd.ntmps17
    go_wp2_with fail
    refine (HG.out).mono ?_
    rintro e w2 ⟨rfl, b2⟩
    have HB2 := Lib.hid b2
    clear b2
    go_wp2_with fail
    go_ret2
    exact ⟨rfl, HB2.out⟩
  | true =>
    by_cases h0 : 0 ≤ f
    · have e := HM.out
      rw [m_WidthOfName, if_pos ⟨HGo.out, by rw [HFd.out]; exact h0⟩, HFd.out] at e
      obtain ⟨e1, rfl⟩ := Prod.mk.inj e
      have HR := Lib.hid e1
      have hfl : f < (n : Int) := by have := findL_range ls s; rw [HFd.out, HL.out] at this; omega
      obtain ⟨k, rfl⟩ : ∃ k : Nat, f = (k : Int) := ⟨f.toNat, by omega⟩
      have hk : k < n := by omega
      clear e e1
      go_enter Tryd.func17, Tryd.ntmps17
      go_wp2_with fail
      refine (HG.out).mono ?_
      rintro e w2 ⟨rfl, b2⟩
      have HB2 := Lib.hid b2
      clear b2
      go_wp2_with fail
      refine (HFi.out w2 (HH.out.below HB2.out)).mono ?_
      rintro e w3 ⟨rfl, b3⟩
      have HB3 := Lib.hid (HB2.out.trans (b3.mono HB2.out.size))
      clear b3
      go_wp2_with fail
      refine (laWidths_any A n c ls w3 (HH.out.below HB3.out) hn hnc HZ.out).mono ?_
      rintro e w4 ⟨R4, c4, rfl, o4, b4⟩
      have HB4 := Lib.hid (HB3.out.trans (b4.mono HB3.out.size))
      have HO := Lib.hid o4.has
      clear o4 b4
      go_wp2_with fail
      refine (HFi.out w4 (HH.out.below HB4.out)).mono ?_
      rintro e w5 ⟨rfl, b5⟩
      have HB5 := Lib.hid (HB4.out.trans (b5.mono HB4.out.size))
      obtain ⟨ad, z, rfl, hc, HZ2⟩ := (HO.out.below b5).elem hk
      clear b5
      go_wp2_with fail
      go_ret2
      exact ⟨by rw [HZ2.out, ← HR.out]; rfl, HB5.out⟩
    · have e := HM.out
      rw [m_WidthOfName, if_neg (by rw [HFd.out]; omega)] at e
      obtain ⟨rfl, rfl⟩ := Prod.mk.inj e
      have h1 : f < 0 := by omega
      clear e
      go_enter Tryd.func17, Tryd.ntmps17
      go_wp2_with fail
      refine (HG.out).mono ?_
      rintro e w2 ⟨rfl, b2⟩
      have HB2 := Lib.hid b2
      clear b2
      go_wp2_with fail
      refine (HFi.out w2 (HH.out.below HB2.out)).mono ?_
      rintro e w3 ⟨rfl, b3⟩
      have HB3 := Lib.hid (HB2.out.trans (b3.mono HB2.out.size))
      clear b3
      go_wp2_with fail
      go_ret2
      exact ⟨rfl, HB3.out⟩

set_option maxRecDepth 100000 in
set_option maxHeartbeats 2000000 in
theorem impl_WidthOfName (A : Option Addr) (n c : Nat) (ls : List Ln) (s : ByteArray) (ry : Int) (rb : Bool) (w : World) (h : HasL w A n ls) (hn : n ≤ 1048576) (_hnc : n ≤ c) (hz : ∀ j, j < n → FitL (lnAt ls j)) (_hs : s.size ≤ 1048576) (hF : Forms w) (hW : OpWords w) (hm : m_WidthOfName ls s = (ry, rb)) :
    Calls Tryd.prog 18 #[.slice A n c, .string s] w fun e w' => e = .returned (.tuple #[.int .i64 ry, .bool rb]) ∧ Below w.heap.size w w' := by
  have HG := Lib.hid (implIsProgram_any A n c ls w h hn hz hF hW)
  rw [good_same] at HG
  have HH := Lib.hid h
  have HL : Hid (ls.length = n) := h.1
  have HZ := Lib.hid hz
  have HWo := Lib.hid hW
  have HM := Lib.hid hm
  clear h hz hm hF hW
  obtain ⟨b, hb⟩ : ∃ b, goodP ls = b := ⟨_, rfl⟩
  rw [hb] at HG
  have HGo := Lib.hid hb
  clear hb
  obtain ⟨f, hf⟩ : ∃ f, findL ls s = f := ⟨_, rfl⟩
  have HFd := Lib.hid hf
  have HFi := Lib.hid (fun W hW => lineGiving_any A n c ls s W hW hn)
  rw [hf] at HFi
  clear hf
  cases b with
  | false =>
    have e := HM.out
    rw [m_WidthOfName, if_neg (by rw [HGo.out]; simp)] at e
    obtain ⟨rfl, rfl⟩ := Prod.mk.inj e
    clear e
    go_enter Tryd.func18, Tryd.ntmps18
    go_wp2_with fail
    refine (HG.out).mono ?_
    rintro e w2 ⟨rfl, b2⟩
    have HB2 := Lib.hid b2
    clear b2
    go_wp2_with fail
    go_ret2
    exact ⟨rfl, HB2.out⟩
  | true =>
    have HQ := Lib.hid (good_parts HGo.out)
    by_cases h0 : 0 ≤ f
    · have e := HM.out
      rw [m_WidthOfName, if_pos ⟨HGo.out, by rw [HFd.out]; exact h0⟩, HFd.out] at e
      obtain ⟨e1, rfl⟩ := Prod.mk.inj e
      have HR := Lib.hid e1
      have hfl : f < (n : Int) := by have := findL_range ls s; rw [HFd.out, HL.out] at this; omega
      obtain ⟨k, rfl⟩ : ∃ k : Nat, f = (k : Int) := ⟨f.toNat, by omega⟩
      have hk : k < n := by omega
      clear e e1
      go_enter Tryd.func18, Tryd.ntmps18
      go_wp2_with fail
      refine (HG.out).mono ?_
      rintro e w2 ⟨rfl, b2⟩
      have HB2 := Lib.hid b2
      clear b2
      go_wp2_with fail
      refine (HFi.out w2 (HH.out.below HB2.out)).mono ?_
      rintro e w3 ⟨rfl, b3⟩
      have HB3 := Lib.hid (HB2.out.trans (b3.mono HB2.out.size))
      clear b3
      go_wp2_with fail
      refine (widthsByLine_any A n c ls w3 (HH.out.below HB3.out) hn HZ.out HQ.out.2.1 HQ.out.2.2.1 (HWo.out.below HB3.out)).mono ?_
      rintro e w4 ⟨g, rfl, o4, b4⟩
      have HB4 := Lib.hid (HB3.out.trans (b4.mono HB3.out.size))
      have ho := o4.has
      obtain ⟨ad, z, e4, hc, HZ2⟩ := ho.elem hk
      obtain rfl : ad = ⟨g, 0, none⟩ := (Option.some.inj e4).symm
      rw [addNone'] at hc
      clear o4 b4 ho e4
      go_wp2_with fail
      go_ret2
      exact ⟨by rw [HZ2.out, HQ.out.2.2.2.1, ← HR.out]; rfl, HB4.out⟩
    · have e := HM.out
      rw [m_WidthOfName, if_neg (by rw [HFd.out]; omega)] at e
      obtain ⟨rfl, rfl⟩ := Prod.mk.inj e
      have h1 : f < 0 := by omega
      clear e
      go_enter Tryd.func18, Tryd.ntmps18
      go_wp2_with fail
      refine (HG.out).mono ?_
      rintro e w2 ⟨rfl, b2⟩
      have HB2 := Lib.hid b2
      clear b2
      go_wp2_with fail
      refine (HFi.out w2 (HH.out.below HB2.out)).mono ?_
      rintro e w3 ⟨rfl, b3⟩
      have HB3 := Lib.hid (HB2.out.trans (b3.mono HB2.out.size))
      clear b3
      go_wp2_with fail
      go_ret2
      exact ⟨rfl, HB3.out⟩

end Go.Proofs.YtcbofogmfelpkaaDoor
