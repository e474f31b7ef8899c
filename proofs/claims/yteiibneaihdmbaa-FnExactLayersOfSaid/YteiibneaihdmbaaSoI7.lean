/- The program's LayersOf. For valid networks. -/
import Derived.Test.YteiibneaihdmbaaSoM3
import Derived.Test.YteiibneaihdmbaaSoI1
import Derived.Deep.DeepCutAuto
namespace Go.Proofs.Yteiibneaihdmbaa
open Go Go.RowKit
set_option maxRecDepth 100000

/-- An array of twelve numbers in block b, a variable. -/
def ArrB (w : World) (b : Nat) (L : List Int) : Prop := Blk w b (vals L).toArray 108
section
variable {w w' : World} {b k : Nat} {L : List Int}
theorem ArrB.cellA (h : ArrB w b L) (hk : k < L.length) : w.cell? ⟨b, k, none⟩ = some (.int .i64 (L.getD k 0)) := Blk.cell h (by rw [List.getElem?_toArray]; exact vals_at L k hk)
theorem ArrB.belowA (h : ArrB w b L) (hb : Below w.heap.size w w') : ArrB w' b L := Blk.below' h hb
theorem ArrB.keptA {row : Option Nat} (h : ArrB w b L) (hg : w.grownBy w' row) (hne : some b ≠ row) : ArrB w' b L := Blk.grown h hg hne
theorem ArrB.otherA {g : Nat} (h : ArrB w b L) (hne : g ≠ b) (i : Nat) (v : Value) : ArrB (w.setCell ⟨g, i, none⟩ v) b L := Blk.other h hne i v
theorem ArrB.putA (h : ArrB w b L) (k : Nat) (z : Int) : ArrB (w.setCell ⟨b, k, none⟩ (.int .i64 z)) b (L.set k z) := by
  unfold ArrB
  have e : (vals (L.set k z)).toArray = (vals L).toArray.setIfInBounds k (.int .i64 z) := by rw [← vals_set]; simp
  rw [e]
  exact Blk.set h k _
end

set_option maxRecDepth 100000 in
set_option maxHeartbeats 4000000 in
theorem impl_LayersOf (x : Int) (A : Option Addr) (n c : Nat) (l : List St) (rs : Nat × (Nat → List Int)) (rb : Bool) (w : World) (_hx : I64 x) (h : HasT w A n l) (hn : n ≤ 1048576) (_ : NilOk A n c) (hM : m_LayersOf x l = (rs, rb)) :
    Calls Try.prog 41 #[.int .i64 x, .slice A n c] w fun e w' => ∃ R c' rf, e = .returned (.tuple #[.slice R rs.1 c', .bool rb]) ∧ LayR w' w.heap.size R rs.1 c' rf rs.2 ∧ rs.1 ≤ 60 ∧ (∀ k, k < rs.1 → (rs.2 k).length ≤ 60) ∧ Below w.heap.size w w' := by
  have HL := Lib.hid h.1
  obtain ⟨y, hy⟩ : ∃ y, netB x l = y := ⟨_, rfl⟩
  have HG := Lib.hid (isNetwork_any x A n c l y w h hn hy)
  have HM := Lib.hid hM
  have HY := Lib.hid hy
  clear hM hy
  cases y with
  | false =>
    have hR : (0, fun _ => []) = rs ∧ false = rb := by
      have := HM.out
      rw [m_LayersOf, if_neg (by rw [HY.out]; decide)] at this
      injection this with a b
      exact ⟨a, b⟩
    obtain ⟨rfl, rfl⟩ := hR
    go_enter Try.func41, Try.ntmps41
    go_wp2_with fail
    refine (HG.out).mono ?_
    rintro e w1 ⟨rfl, b1⟩
    go_wp2_with fail
    go_ret2
    exact ⟨none, 0, fun _ => (none, 0, 0), rfl, LayR.nil_ _ _ _ _, by omega, fun k hk => absurd hk (by omega), b1⟩
  | true =>
    obtain ⟨m, rfl, hNet⟩ := net_yes HY.out
    have hn60 : n ≤ 60 := by rw [← h.1]; exact hNet.short
    have hm0 := hNet.one
    have hm1 := hNet.twelve
    have HN := Lib.hid hNet
    have hR : (cntL l n, layM l n) = rs ∧ true = rb := by
      have := HM.out
      rw [m_LayersOf, if_pos HY.out, HL.out] at this
      injection this with a b
      exact ⟨a, b⟩
    obtain ⟨rfl, rfl⟩ := hR
    show Calls Try.prog 41 #[.int .i64 (m : Int), .slice A n c] w fun e w' => ∃ R c' rf, e = .returned (.tuple #[.slice R (cntL l n) c', .bool true]) ∧ LayR w' w.heap.size R (cntL l n) c' rf (layM l n) ∧ cntL l n ≤ 60 ∧ (∀ k, k < cntL l n → (layM l n k).length ≤ 60) ∧ Below w.heap.size w w'
    obtain ⟨cn, hcn⟩ : ∃ cn, cntL l n = cn := ⟨_, rfl⟩
    have hcn60 : cn ≤ 60 := by rw [← hcn]; have := cntL_le l n; omega
    have HCN := Lib.hid hcn
    have HLen : Hid (∀ k, k < cn → (layM l n k).length ≤ 60) := fun k _ => by have := layM_length l n k; omega
    rw [hcn]
    clear hcn hNet
    go_enter Try.func41, Try.ntmps41
    go_wp2_with fail
    refine (HG.out).mono ?_
    rintro e w1 ⟨rfl, b1⟩
    have b2 := belowNew w1 (.cells #[.int .i64 0, .int .i64 0, .int .i64 0, .int .i64 0, .int .i64 0, .int .i64 0, .int .i64 0, .int .i64 0, .int .i64 0, .int .i64 0, .int .i64 0, .int .i64 0] 108)
    obtain ⟨bh, hbh⟩ : ∃ b, w1.heap.size = b := ⟨_, rfl⟩
    have hrow0 := Blk.newAt (k := bh) w1 #[.int .i64 0, .int .i64 0, .int .i64 0, .int .i64 0, .int .i64 0, .int .i64 0, .int .i64 0, .int .i64 0, .int .i64 0, .int .i64 0, .int .i64 0, .int .i64 0] 108 hbh.symm
    obtain ⟨w2, hw2⟩ : ∃ W, W = w1.alloc (.cells #[.int .i64 0, .int .i64 0, .int .i64 0, .int .i64 0, .int .i64 0, .int .i64 0, .int .i64 0, .int .i64 0, .int .i64 0, .int .i64 0, .int .i64 0, .int .i64 0] 108) := ⟨_, rfl⟩
    rw [← hw2] at b2 hrow0
    go_upto_region 5 with fail
    rw [← hw2]
    clear hw2
    go_wp2_with fail
    have HROW0 : Hid (ArrB w2 bh (behL l 12 0)) := hrow0
    have s1 : w.heap.size ≤ bh := by rw [← hbh]; exact b1.size
    have s2 : bh < w2.heap.size := Blk.lt HROW0.out
    have B2 := Lib.hid (b1.trans (b2.mono b1.size))
    have HH := Lib.hid h
    clear hrow0 hbh b1 b2 h HG
    go_loopw [6, 17] (fun vv iv wr => ∃ (k cn c' : Nat) (A : Option Addr) (rs : Nat → RwS), k ≤ n ∧ iv = .int .i64 k ∧ vv = .slice A cn c' ∧ Hid (cntL l k = cn) ∧ LayR wr w2.heap.size A cn c' rs (layM l k) ∧ ArrB wr bh (behL l 12 k) ∧ Hid (Below w.heap.size w wr) ∧ w2.heap.size ≤ wr.heap.size) (fun _ iv _ => n - (intOf iv).toNat)
    case atStart => exact ⟨0, 0, 0, none, fun _ => (none, 0, 0), Nat.zero_le _, rfl, rfl, rfl, LayR.nil_ _ _ _ _, HROW0.out, B2.out, Nat.le_refl _⟩
    case round =>
      obtain ⟨k, cn, c', A', rs, hk, rfl, rfl, HC, hr, hrow, BK, sk⟩ := hrel
      have hcn60 : cn ≤ 60 := by rw [← HC.out]; have := cntL_le l k; omega
      by_cases hlt : k < n
      · obtain ⟨ad, u, v, rfl, hu, hv, HE⟩ := (HH.out.below BK.out).elem hlt
        have q0 : (0 : Int) ≤ (k : Int) := by omega
        have q1 : (k : Int) < (n : Int) := by omega
        have hok := HN.out.ok k (by rw [HL.out]; exact hlt)
        rw [HE.out] at hok
        obtain ⟨o0, o1, o2⟩ := hok
        obtain ⟨a, rfl⟩ := natOf (x := u) o0
        obtain ⟨b, rfl⟩ := natOf (x := v) (by omega)
        have hab : a < b := by omega
        have hbm : b < m := by omega
        have ea : lo l k = a := by rw [lo, HE.out]; exact Int.toNat_natCast a
        have eb : hi l k = b := by rw [hi, HE.out]; exact Int.toNat_natCast b
        obtain ⟨P, hP⟩ : ∃ P, behF l k a = P := ⟨_, rfl⟩
        obtain ⟨Q, hQ⟩ : ∃ Q, behF l k b = Q := ⟨_, rfl⟩
        obtain ⟨at_, hat⟩ : ∃ at_, atL l k = at_ := ⟨_, rfl⟩
        have hmx : max P Q = at_ := by rw [← hat, atL, ea, eb, hP, hQ]
        have hatc : at_ ≤ cn := by rw [← hat, ← HC.out]; exact atL_le l k
        obtain ⟨bg, hbg⟩ : ∃ b, wr.heap.size = b := ⟨_, rfl⟩
        have bA := belowNew wr (.cells #[.int .i64 (a : Int), .int .i64 (b : Int)] 93)
        have yg := Blk.newAt (k := bg) wr #[.int .i64 (a : Int), .int .i64 (b : Int)] 93 hbg.symm
        have hrg := hr.below bA
        have hrowg := hrow.belowA bA
        have hRg : Hid (∀ j, j < cn → ∀ a : Addr, (rs j).1 = some a → a.block < bg ∧ bh < a.block) := fun j hj a ha => by have := (hr.own j hj).born a ha; omega
        have hAg : Hid (∀ a : Addr, A' = some a → a.block < bg ∧ bh < a.block) := fun a ha => by
          subst ha
          have := hr.row.lt a.block rfl
          omega
        have hbhbg : bh ≠ bg := by have := (Blk.lt hrow); omega
        have hbgbh : bg ≠ bh := fun e => hbhbg e.symm
        obtain ⟨wg, hwg⟩ : ∃ W, W = wr.alloc (.cells #[.int .i64 (a : Int), .int .i64 (b : Int)] 93) := ⟨_, rfl⟩
        rw [← hwg] at bA yg hrg hrowg
        have cP : wg.cell? ⟨bh, a, none⟩ = some (.int .i64 (P : Int)) := by rw [hrowg.cellA (by rw [behL, mapTo_length]; omega), behL_at (by omega), hP]
        have cQ : wg.cell? ⟨bh, b, none⟩ = some (.int .i64 (Q : Int)) := by rw [hrowg.cellA (by rw [behL, mapTo_length]; omega), behL_at (by omega), hQ]
        have g0c : wg.cell? ⟨bg, 0, none⟩ = some (.int .i64 (a : Int)) := yg.cell (i := 0) rfl
        have g1c : wg.cell? ⟨bg, 1, none⟩ = some (.int .i64 (b : Int)) := yg.cell (i := 1) rfl
        have HMX := Lib.hid hmx
        have A0 : (0 : Int) ≤ (a : Int) := by omega
        have A1 : (a : Int) < 12 := by omega
        have B0 : (0 : Int) ≤ (b : Int) := by omega
        have B1 : (b : Int) < 12 := by omega
        have EA := Lib.hid ea
        have EB := Lib.hid eb
        have HAT := Lib.hid hat
        have HRg := Lib.hid hrg
        have HROWg := Lib.hid hrowg
        have YG := Lib.hid yg
        have BG := Lib.hid (BK.out.trans (bA.mono BK.out.size))
        have sg : w2.heap.size ≤ wg.heap.size := Nat.le_trans sk bA.size
        clear hP hQ hat hmx ea eb bA yg hrg hrowg hr hrow o0 o1 o2
        go_upto_region 8 with fail
        rw [← hwg]
        clear hwg hbg hu hv
        go_cut [10] (fun v wx => v = .int .i64 (at_ : Int) ∧ ∃ d, wx = wg.drewN d)
        case first =>
          first | go_quiet (fail) | go_region
          all_goals
            go_wp2_with fail
            all_goals
              go_meet
              exact ⟨congrArg (Value.int .i64) (by have := HMX.out; omega), _, rfl⟩
        case rest =>
          obtain ⟨rfl, d, rfl⟩ := hcut
          obtain ⟨wd, hwd⟩ : ∃ W, W = wg.drewN d := ⟨_, rfl⟩
          have bd : Below wg.heap.size wg wd := by rw [hwd]; exact below_drewN (Below.refl _ _) d
          rw [← hwd]
          have hrd := HRg.out.below bd
          have hrowd := HROWg.out.belowA bd
          have ygd := YG.out.below' bd
          have Bd := BG.out.trans (bd.mono BG.out.size)
          have sd : w2.heap.size ≤ wd.heap.size := Nat.le_trans sg bd.size
          clear hwd bd cP cQ g0c g1c HRg HROWg YG BG
          by_cases hec : at_ = cn
          · subst hec
            have c1 : ((at_ : Int) == (at_ : Int)) = true := by simp
            have HCN1 : Hid (cntL l (k + 1) = at_ + 1) := by show _ = _; rw [cntL, HAT.out, HC.out, if_pos rfl]
            have HRD := Lib.hid hrd
            have bl0 := belowNew wd (.cells #[.slice none 0 0] 23)
            have HROWd := Lib.hid hrowd
            have HYd := Lib.hid ygd
            have HBd := Lib.hid Bd
            clear hrd hrowd ygd Bd
            go_upto_region 11 with (at_builtin; refine appendNil wd rfl (.tmp 35) (.tmp 36) rfl w2.heap.size A' at_ c' rs (layM l k) (layM l k) rfl rfl HRD.out (by omega) sd (fun _ _ => rfl) (layM_nil l k at_ (by rw [HC.out]; exact Nat.le_refl _)) ?_; intro A6 cA w6 hra0 b60 gr60)
            obtain ⟨na, hna⟩ : ∃ na, na = at_ + 1 := ⟨_, rfl⟩
            obtain ⟨rsa, hrsa⟩ : ∃ rsa : Nat → RwS, rsa = fun k => if k = at_ then (none, 0, 0) else rs k := ⟨_, rfl⟩
            obtain ⟨wa, rfl⟩ : ∃ x, x = w6 := ⟨_, rfl⟩
            have hra : LayR wa w2.heap.size A6 na cA rsa (layM l k) := by rw [hna, hrsa]; exact hra0
            have hrowa : ArrB wa bh (behL l 12 k) := (HROWd.out.belowA bl0).keptA gr60 (fun e => by
              cases hA : A' with
              | none => rw [hA] at e; simp [blockOf] at e
              | some a => rw [hA] at e; simp [blockOf] at e; have := hAg.out a hA; omega)
            have yga := (HYd.out.below' bl0).grown gr60 (fun e => by
              cases hA : A' with
              | none => rw [hA] at e; simp [blockOf] at e
              | some a => rw [hA] at e; simp [blockOf] at e; have := hAg.out a hA; omega)
            have ba := HBd.out.trans (b60.mono (by omega))
            have sa : w2.heap.size ≤ wa.heap.size := Nat.le_trans sd b60.size
            have hRa : ∀ a : Addr, (rsa at_).1 = some a → a.block < bg ∧ bh < a.block := fun a ha => by
              rw [hrsa] at ha
              simp at ha
            have hatna : at_ < na := by omega
            rw [← hna]
            rw [← hna] at HCN1
            clear hra0 gr60 b60 HRD HROWd HYd HBd bl0 sd hna c1
            have hat1 : at_ < na := by omega
            obtain ⟨g, rfl⟩ := hra.spot (by omega)
            obtain ⟨R, p, dd, hrk⟩ : ∃ R p dd, rsa at_ = (R, p, dd) := ⟨_, _, _, rfl⟩
            have hcell := hra.cell hat1
            have ho := hra.own at_ hat1
            rw [hrk] at hcell ho
            have hpl : (layM l k at_).length = p := ho.1
            have hp60 : p ≤ 60 := by rw [← hpl]; have := layM_length l k at_; omega
            have hfr := hra.free at_
            have hgbg : g ≠ bg := rowNotBlk hra.row yga (by decide)
            have hgB : w2.heap.size ≤ g := (hra.row.lt g rfl).1
            have bl := belowNew wa (.cells #[.int .i64 (k : Int)] 3)
            have hrl := hra.below bl
            have HX : Hid (∀ j, j < na → (if j = at_ then layM l k at_ ++ [(k : Int)] else layM l k j) = layM l (k + 1) j) := fun j _ => by
              rw [layM, HAT.out]
              by_cases e : j = at_
              · rw [if_pos e, if_pos e, e]
              · rw [if_neg e, if_neg e]
            have HO := Lib.hid ho
            have HRL := Lib.hid hrl
            have HRK := Lib.hid hrk
            have HYA := Lib.hid (yga.below' bl)
            have HROWa := Lib.hid (hrowa.belowA bl)
            have HBa := Lib.hid ba
            have HRB : Hid (∀ a : Addr, R = some a → a.block < bg ∧ bh < a.block) := fun a ha => hRa a (by rw [hrk]; exact ha)
            clear hra ho hrl hrk yga hrowa ba hRa bl hpl
            go_upto_region 12 with (at_builtin; refine appendIntA wa rfl (.tmp 43) (.tmp 45) rfl (k : Int) w2.heap.size R p dd _ rfl rfl HO.out (by omega) sa ?_; intro R6 c6 w6 o6 b6 gr6 bl6; have row6 := HRL.out.rowIn hat1 (by rw [HRK.out]; exact gr6); have x6 : w6.cell? ⟨g, at_, none⟩ = some (.slice (rsa at_).1 (rsa at_).2.1 (rsa at_).2.2) := (row6.cellAt at_ (by omega)).trans (rwVs_at _ hat1); have f6 := row6.frozenAt at_)
            have hr7 := (HRL.out.put hat1 o6 (by rw [HRK.out]; exact gr6) (by rw [HRK.out]; exact bl6)).ext HX.out
            obtain ⟨W7, hW7⟩ : ∃ W, W = w6.setCell ⟨g, at_, none⟩ (.slice R6 (p + 1) c6) := ⟨_, rfl⟩
            rw [← hW7] at hr7
            have hrow7 : ArrB W7 bh (behL l 12 k) := by
              rw [hW7]
              exact (HROWa.out.keptA gr6 (fun e => by
                cases hR : R with
                | none => rw [hR] at e; simp [blockOf] at e
                | some a => rw [hR] at e; simp [blockOf] at e; have := HRB.out a hR; omega)).otherA (by omega) _ _
            have y7 : Blk W7 bg #[.int .i64 (a : Int), .int .i64 (b : Int)] 93 := by
              rw [hW7]
              exact (HYA.out.grown gr6 (fun e => by
                cases hR : R with
                | none => rw [hR] at e; simp [blockOf] at e
                | some a => rw [hR] at e; simp [blockOf] at e; have := HRB.out a hR; omega)).other hgbg _ _
            have B7 : Below w.heap.size w W7 := by
              rw [hW7]
              exact (HBa.out.trans (b6.mono (by omega))).setCell (by show w.heap.size ≤ g; omega) _
            have s7 : w2.heap.size ≤ W7.heap.size := by rw [hW7]; exact Nat.le_trans sa (by have := b6.size; simpa [World.setCell] using this)
            rw [← hW7]
            clear hW7 o6 b6 gr6 bl6 row6 x6 f6 hcell hfr
            have g0c : W7.cell? ⟨bg, 0, none⟩ = some (.int .i64 (a : Int)) := y7.cell (i := 0) rfl
            have g1c : W7.cell? ⟨bg, 1, none⟩ = some (.int .i64 (b : Int)) := y7.cell (i := 1) rfl
            have r0c := hrow7.cellA (k := a) (by rw [behL, mapTo_length]; omega)
            have r1c := hrow7.cellA (k := b) (by rw [behL, mapTo_length]; omega)
            have r0f := Blk.free hrow7 a
            have r1f := Blk.free hrow7 b
            have HR7 := Lib.hid hr7
            have HROW7 := Lib.hid hrow7
            have HB7 := Lib.hid B7
            clear hr7 hrow7 y7 B7
            have hw1 : IntKind.i64.wrap ((at_ : Int) + 1) = (at_ : Int) + 1 := wrapIn (by omega) (by omega)
            go_wp2_with fail
            go_region
            clear hw1
            go_wp2_with fail
            go_roundw
            case rel =>
              have gz0 := grown_setCell (grown_setCell (World.grownBy.refl W7 (some bh)) a (.int .i64 ((at_ : Int) + 1))) b (.int .i64 ((at_ : Int) + 1))
              have gz : W7.grownBy ((W7.setCell ⟨bh, a, none⟩ (.int .i64 ((at_ : Int) + 1))).setCell ⟨bh, b, none⟩ (.int .i64 ((at_ : Int) + 1))).drew (some bh) := ⟨gz0.os, gz0.tape, gz0.output, gz0.size, gz0.block⟩
              have B9 : Below w.heap.size w ((W7.setCell ⟨bh, a, none⟩ (.int .i64 ((at_ : Int) + 1))).setCell ⟨bh, b, none⟩ (.int .i64 ((at_ : Int) + 1))) := (HB7.out.setCell (by show w.heap.size ≤ bh; omega) _).setCell (by show w.heap.size ≤ bh; omega) _
              have hrow9 := (HROW7.out.putA a ((at_ : Int) + 1)).putA b ((at_ : Int) + 1)
              have e9 := behL_next (l := l) (n := 12) (k := k)
              rw [EA.out, EB.out, HAT.out] at e9
              rw [e9] at hrow9
              refine ⟨k + 1, na, _, some ⟨g, 0, none⟩, _, by omega, by go_num, rfl, HCN1, HR7.out.kept gz (fun a ha e => ?_) (fun j hj a ha e => ?_), hrow9, B9.drew, by simpa [World.setCell, World.drew] using s7⟩
              · cases ha; simp at e; omega
              · have := (HR7.out.own j hj).born a ha; simp at e; omega
            case measure => simp [intOf]; omega
          · have c1 : ((at_ : Int) == (cn : Int)) = false := by simp; omega
            have HCN1 : Hid (cntL l (k + 1) = cn) := by show _ = _; rw [cntL, HAT.out, HC.out, if_neg hec]
            obtain ⟨na, hna⟩ : ∃ na, na = cn := ⟨_, rfl⟩
            obtain ⟨rsa, hrsa⟩ : ∃ rsa : Nat → RwS, rsa = rs := ⟨_, rfl⟩
            obtain ⟨wa, rfl⟩ : ∃ x, x = wd := ⟨_, rfl⟩
            subst hna hrsa
            have hra := hrd
            have hrowa := hrowd
            have yga := ygd
            have ba := Bd
            have sa := sd
            have hRa : ∀ a : Addr, (rsa at_).1 = some a → a.block < bg ∧ bh < a.block := fun a ha => hRg.out at_ (by omega) a ha
            clear hrd hrowd ygd Bd sd
            have hat1 : at_ < na := by omega
            obtain ⟨g, rfl⟩ := hra.spot (by omega)
            obtain ⟨R, p, dd, hrk⟩ : ∃ R p dd, rsa at_ = (R, p, dd) := ⟨_, _, _, rfl⟩
            have hcell := hra.cell hat1
            have ho := hra.own at_ hat1
            rw [hrk] at hcell ho
            have hpl : (layM l k at_).length = p := ho.1
            have hp60 : p ≤ 60 := by rw [← hpl]; have := layM_length l k at_; omega
            have hfr := hra.free at_
            have hgbg : g ≠ bg := rowNotBlk hra.row yga (by decide)
            have hgB : w2.heap.size ≤ g := (hra.row.lt g rfl).1
            have bl := belowNew wa (.cells #[.int .i64 (k : Int)] 3)
            have hrl := hra.below bl
            have HX : Hid (∀ j, j < na → (if j = at_ then layM l k at_ ++ [(k : Int)] else layM l k j) = layM l (k + 1) j) := fun j _ => by
              rw [layM, HAT.out]
              by_cases e : j = at_
              · rw [if_pos e, if_pos e, e]
              · rw [if_neg e, if_neg e]
            have HO := Lib.hid ho
            have HRL := Lib.hid hrl
            have HRK := Lib.hid hrk
            have HYA := Lib.hid (yga.below' bl)
            have HROWa := Lib.hid (hrowa.belowA bl)
            have HBa := Lib.hid ba
            have HRB : Hid (∀ a : Addr, R = some a → a.block < bg ∧ bh < a.block) := fun a ha => hRa a (by rw [hrk]; exact ha)
            clear hra ho hrl hrk yga hrowa ba hRa bl hpl
            go_upto_region 12 with (at_builtin; refine appendIntA wa rfl (.tmp 43) (.tmp 45) rfl (k : Int) w2.heap.size R p dd _ rfl rfl HO.out (by omega) sa ?_; intro R6 c6 w6 o6 b6 gr6 bl6; have row6 := HRL.out.rowIn hat1 (by rw [HRK.out]; exact gr6); have x6 : w6.cell? ⟨g, at_, none⟩ = some (.slice (rsa at_).1 (rsa at_).2.1 (rsa at_).2.2) := (row6.cellAt at_ (by omega)).trans (rwVs_at _ hat1); have f6 := row6.frozenAt at_)
            have hr7 := (HRL.out.put hat1 o6 (by rw [HRK.out]; exact gr6) (by rw [HRK.out]; exact bl6)).ext HX.out
            obtain ⟨W7, hW7⟩ : ∃ W, W = w6.setCell ⟨g, at_, none⟩ (.slice R6 (p + 1) c6) := ⟨_, rfl⟩
            rw [← hW7] at hr7
            have hrow7 : ArrB W7 bh (behL l 12 k) := by
              rw [hW7]
              exact (HROWa.out.keptA gr6 (fun e => by
                cases hR : R with
                | none => rw [hR] at e; simp [blockOf] at e
                | some a => rw [hR] at e; simp [blockOf] at e; have := HRB.out a hR; omega)).otherA (by omega) _ _
            have y7 : Blk W7 bg #[.int .i64 (a : Int), .int .i64 (b : Int)] 93 := by
              rw [hW7]
              exact (HYA.out.grown gr6 (fun e => by
                cases hR : R with
                | none => rw [hR] at e; simp [blockOf] at e
                | some a => rw [hR] at e; simp [blockOf] at e; have := HRB.out a hR; omega)).other hgbg _ _
            have B7 : Below w.heap.size w W7 := by
              rw [hW7]
              exact (HBa.out.trans (b6.mono (by omega))).setCell (by show w.heap.size ≤ g; omega) _
            have s7 : w2.heap.size ≤ W7.heap.size := by rw [hW7]; exact Nat.le_trans sa (by have := b6.size; simpa [World.setCell] using this)
            rw [← hW7]
            clear hW7 o6 b6 gr6 bl6 row6 x6 f6 hcell hfr
            have g0c : W7.cell? ⟨bg, 0, none⟩ = some (.int .i64 (a : Int)) := y7.cell (i := 0) rfl
            have g1c : W7.cell? ⟨bg, 1, none⟩ = some (.int .i64 (b : Int)) := y7.cell (i := 1) rfl
            have r0c := hrow7.cellA (k := a) (by rw [behL, mapTo_length]; omega)
            have r1c := hrow7.cellA (k := b) (by rw [behL, mapTo_length]; omega)
            have r0f := Blk.free hrow7 a
            have r1f := Blk.free hrow7 b
            have HR7 := Lib.hid hr7
            have HROW7 := Lib.hid hrow7
            have HB7 := Lib.hid B7
            clear hr7 hrow7 y7 B7
            have hw1 : IntKind.i64.wrap ((at_ : Int) + 1) = (at_ : Int) + 1 := wrapIn (by omega) (by omega)
            go_wp2_with fail
            go_region
            clear hw1
            go_wp2_with fail
            go_roundw
            case rel =>
              have gz0 := grown_setCell (grown_setCell (World.grownBy.refl W7 (some bh)) a (.int .i64 ((at_ : Int) + 1))) b (.int .i64 ((at_ : Int) + 1))
              have gz : W7.grownBy ((W7.setCell ⟨bh, a, none⟩ (.int .i64 ((at_ : Int) + 1))).setCell ⟨bh, b, none⟩ (.int .i64 ((at_ : Int) + 1))).drew (some bh) := ⟨gz0.os, gz0.tape, gz0.output, gz0.size, gz0.block⟩
              have B9 : Below w.heap.size w ((W7.setCell ⟨bh, a, none⟩ (.int .i64 ((at_ : Int) + 1))).setCell ⟨bh, b, none⟩ (.int .i64 ((at_ : Int) + 1))) := (HB7.out.setCell (by show w.heap.size ≤ bh; omega) _).setCell (by show w.heap.size ≤ bh; omega) _
              have hrow9 := (HROW7.out.putA a ((at_ : Int) + 1)).putA b ((at_ : Int) + 1)
              have e9 := behL_next (l := l) (n := 12) (k := k)
              rw [EA.out, EB.out, HAT.out] at e9
              rw [e9] at hrow9
              refine ⟨k + 1, na, _, some ⟨g, 0, none⟩, _, by omega, by go_num, rfl, HCN1, HR7.out.kept gz (fun a ha e => ?_) (fun j hj a ha e => ?_), hrow9, B9.drew, by simpa [World.setCell, World.drew] using s7⟩
              · cases ha; simp at e; omega
              · have := (HR7.out.own j hj).born a ha; simp at e; omega
            case measure => simp [intOf]; omega
      · obtain rfl : k = n := by omega
        obtain rfl := HC.out.symm.trans HCN.out
        have HR := Lib.hid hr
        clear hr hrow
        go_wp2_with fail
        go_ret2
        exact ⟨A', c', rs, rfl, HR.out.mono (by omega), hcn60, HLen.out, BK.out⟩

end Go.Proofs.Yteiibneaihdmbaa
