/- The model's list after steps (soWith), SortWith. For valid networks. -/
import Derived.Test.YteiibneaihdmbaaSoG1
import Derived.Test.YteiibneaihdmbaaSoB
import Derived.Deep.DeepCutAuto
namespace Go.Proofs.Yteiibneaihdmbaa
open Go Go.RowKit
set_option maxRecDepth 100000

theorem natOf {x : Int} (h : 0 ≤ x) : ∃ a : Nat, x = (a : Int) := ⟨x.toNat, by omega⟩
theorem exch_pair {l : List St} {xs : List Int} {k a b : Nat} {p q : Int} (hE : l.getD k st0 = ((a : Int), (b : Int))) (hp : p = (aft l xs k).getD a 0) (hq : q = (aft l xs k).getD b 0) :
    aft l xs (k + 1) = (if q < p then ((aft l xs k).set a q).set b p else aft l xs k) ∧ didAt l xs k = decide (q < p) := by
  have e : didAt l xs k = decide (q < p) := by rw [didAt, hE, swaps, hp, hq]; simp
  refine ⟨?_, e⟩
  rw [aft, exch, show swaps (l.getD k st0) (aft l xs k) = decide (q < p) from e, hE]
  simp only [Int.toNat_natCast, decide_eq_true_eq]
  rw [← hp, ← hq]
/-- Which of the first k steps have exchanged something. -/
def didTo (l : List St) (xs : List Int) (k j : Nat) : Bool := if j < k then didAt l xs j else false
theorem didTo_all {l : List St} {xs : List Int} {k j : Nat} (h : j < k) : didTo l xs k j = didAt l xs j := if_pos h
theorem didTo_next {l : List St} {xs : List Int} {k j : Nat} {b : Bool} (h : didAt l xs k = b) : (if j = k then b else didTo l xs k j) = didTo l xs (k + 1) j := by
  unfold didTo
  by_cases e : j = k
  · subst e; rw [if_pos rfl, if_pos (by omega), h]
  · rw [if_neg e]
    by_cases e2 : j < k
    · rw [if_pos e2, if_pos (by omega)]
    · rw [if_neg e2, if_neg (by omega)]
theorem didTo_skip {l : List St} {xs : List Int} {k j : Nat} (h : didAt l xs k = false) : didTo l xs k j = didTo l xs (k + 1) j := by
  rw [← didTo_next h]
  by_cases e : j = k
  · subst e; rw [if_pos rfl, didTo, if_neg (by omega)]
  · rw [if_neg e]

set_option maxRecDepth 100000 in
set_option maxHeartbeats 2000000 in
theorem soWith_any (A : Option Addr) (n c : Nat) (l : List St) (X : Option Addr) (m d : Nat) (xs : List Int) (w : World) (h : HasT w A n l) (hx : Has w X m xs) (hnil : NilOk X m d) (hN : Net m l) :
    Calls Try.prog 92 #[.slice A n c, .slice X m d] w fun e w' => ∃ r c' g, e = .returned (.tuple #[.slice (some ⟨r, 0, none⟩) m c', .slice (some ⟨g, 0, none⟩) n n]) ∧ Own w' w.heap.size (some ⟨r, 0, none⟩) m c' (aft l xs n) ∧ RowB w' w.heap.size g n (didAt l xs) ∧ Below w.heap.size w w' := by
  have hn : n ≤ 60 := by rw [← h.1]; exact hN.short
  have hm0 := hN.one
  have hm1 := hN.twelve
  have HL := Lib.hid h.1
  have HN := Lib.hid hN
  have HX := Lib.hid (l1Own_all X m d xs w hx (by omega) hnil)
  clear hN
  go_enter Try.func92, Try.ntmps92
  go_wp2_with fail
  refine (HX.out).mono ?_
  rintro e w1 ⟨R, c', rfl, ho1, b1⟩
  obtain ⟨r, rfl⟩ := ho1.spot (by omega)
  go_wp2_with (at_make; refine makeBools _ rfl _ rfl n rfl (by omega) ?_; intro w2 hrow b2)
  have ho2 := ho1.below b2
  have B2 := b1.trans (b2.mono b1.size)
  have hrg : r < w1.heap.size := (ho1.born _ rfl).2
  have hr0 : w.heap.size ≤ r := (ho1.born _ rfl).1
  have g0 := b1.size
  have hf : RowB w2 w1.heap.size w1.heap.size n (didTo l xs 0) := hrow.congr (fun j _ => by simp [didTo])
  obtain ⟨g, hg⟩ : ∃ g, g = w1.heap.size := ⟨_, rfl⟩
  have HF := Lib.hid hf
  rw [← hg] at hrg g0 HF ⊢
  have HO := Lib.hid ho2
  clear ho1 b1 b2 hrow ho2 hf hg
  go_loopw [19] (fun i wr => ∃ k : Nat, k ≤ n ∧ i = .int .i64 k ∧ Own wr w.heap.size (some ⟨r, 0, none⟩) m c' (aft l xs k) ∧ RowB wr g g n (didTo l xs k) ∧ Below w.heap.size w wr) (fun i _ => n - (intOf i).toNat)
  case atStart => exact ⟨0, Nat.zero_le _, rfl, HO.out, HF.out, B2⟩
  case round =>
    obtain ⟨k, hk, rfl, ho, hf, bk⟩ := hrel
    by_cases hlt : k < n
    · obtain ⟨ad, u, v, rfl, hu, hv, HE⟩ := (h.below bk).elem hlt
      have q0 : (0 : Int) ≤ (k : Int) := by omega
      have q1 : (k : Int) < (n : Int) := by omega
      have hok := HN.out.ok k (by rw [HL.out]; exact hlt)
      rw [HE.out] at hok
      obtain ⟨o0, o1, o2⟩ := hok
      obtain ⟨a, rfl⟩ := natOf (x := u) o0
      obtain ⟨b, rfl⟩ := natOf (x := v) (by omega)
      have hab : a < b := by omega
      have hbm : b < m := by omega
      obtain ⟨p, hp⟩ : ∃ p, p = (aft l xs k).getD a 0 := ⟨_, rfl⟩
      obtain ⟨q, hq⟩ : ∃ q, q = (aft l xs k).getD b 0 := ⟨_, rfl⟩
      obtain ⟨e1, e2⟩ := exch_pair (xs := xs) HE.out hp hq
      have cA : wr.cell? ⟨r, a, none⟩ = some (.int .i64 p) := by rw [hp]; exact ho.cellR (by omega)
      have cB : wr.cell? ⟨r, b, none⟩ = some (.int .i64 q) := by rw [hq]; exact ho.cellR hbm
      have fA := ho.freeR a
      have fB := ho.freeR b
      have cG := hf.cell hlt
      have fG := hf.free k
      have rl : r < wr.heap.size := (ho.born _ rfl).2
      have gl : g < wr.heap.size := hf.lt.2
      have rg : ¬ r = g := by omega
      have gr : ¬ g = r := by omega
      have E1 := Lib.hid e1
      have E2 := Lib.hid e2
      have HB := Lib.hid bk
      have HO2 := Lib.hid ho
      have HF2 := Lib.hid hf
      have A0 : (0 : Int) ≤ (a : Int) := by omega
      have A1 : (a : Int) < (m : Int) := by omega
      have B0 : (0 : Int) ≤ (b : Int) := by omega
      have B1 : (b : Int) < (m : Int) := by omega
      clear e1 e2 hp hq bk ho hf o0 o1 o2 HO HF
      by_cases hpq : q < p
      · have ex : Hid (aft l xs (k + 1) = ((aft l xs k).set a q).set b p) := by show _ = _; rw [E1.out, if_pos hpq]
        have ed : Hid (didAt l xs k = true) := by show _ = _; rw [E2.out]; exact decide_eq_true hpq
        go_wp2_with fail
        go_quiet (fail)
        go_wp2_with fail
        go_roundw
        case rel =>
          have hb := below_drewN (belowNew wr (.cells #[.int .i64 (a : Int), .int .i64 (b : Int)] 93)) nq
          have o2 := ((HO2.out.below hb).putR a q).putR b p
          rw [← ex.out] at o2
          have f2 := (((HF2.out.below hb).grown (grown_setCell (grown_setCell (World.grownBy.refl _ (some r)) a (.int .i64 q)) b (.int .i64 p)) (by simp; omega)).put k true).congr (fun j _ => didTo_next ed.out)
          exact ⟨k + 1, by omega, by go_num, o2.kept (grown_setCell (World.grownBy.refl _ (some g)) k _) (fun ad e => by cases e; simp; omega), f2, (((HB.out.trans (hb.mono HB.out.size)).setCell hr0 _).setCell hr0 _).setCell g0 _⟩
        case measure => simp [intOf]; omega
      · have ex : Hid (aft l xs (k + 1) = aft l xs k) := by show _ = _; rw [E1.out, if_neg hpq]
        have ed : Hid (didAt l xs k = false) := by show _ = _; rw [E2.out]; exact decide_eq_false hpq
        go_wp2_with fail
        go_quiet (fail)
        go_wp2_with fail
        go_roundw
        case rel =>
          have hb := below_drewN (belowNew wr (.cells #[.int .i64 (a : Int), .int .i64 (b : Int)] 93)) nq
          exact ⟨k + 1, by omega, by go_num, by rw [ex.out]; exact HO2.out.below hb, (HF2.out.below hb).congr (fun j _ => didTo_skip ed.out), HB.out.trans (hb.mono HB.out.size)⟩
        case measure => simp [intOf]; omega
    · obtain rfl : k = n := by omega
      have HO2 := Lib.hid ho
      have HF2 := Lib.hid hf
      clear ho hf
      go_wp2_with fail
      go_ret2
      exact ⟨r, c', g, rfl, HO2.out, (HF2.out.congr (fun j hj => didTo_all hj)).mono g0, bk⟩

set_option maxHeartbeats 2000000 in
theorem spec_SortWith (x : Int) (A : Option Addr) (n c : Nat) (l : List St) (X : Option Addr) (m d : Nat) (xs : List Int) (rs : List Int) (rb : Bool) (w : World) (_hx : I64 x) (h : HasT w A n l) (hn : n ≤ 1048576) (_ : NilOk A n c) (hX : Has w X m xs) (hm : m ≤ 16777216) (hnil : NilOk X m d)
    (hM : m_SortWith x l xs = (rs, rb)) :
    Calls Try.prog 29 #[.int .i64 x, .slice A n c, .slice X m d] w fun e w' => ∃ R k c', e = .returned (.tuple #[.slice R k c', .bool rb]) ∧ Has w' R k rs ∧ k ≤ 16777216 ∧ Below w.heap.size w w' := by
  have HL := Lib.hid h.1
  have HXL := Lib.hid hX.1
  have HM := Lib.hid hM
  obtain ⟨y, hy⟩ : ∃ y, netB x l = y := ⟨_, rfl⟩
  obtain ⟨z, hz⟩ : ∃ z, allIn (-1000000) 1000000 xs = z := ⟨_, rfl⟩
  have HG := Lib.hid (soGood_any x A n c l y w h hn hy)
  have HY := Lib.hid hy
  have HZ := Lib.hid hz
  have HNo : Hid (sortAsk x l xs = false → rs = [] ∧ rb = false) := fun e => by
    have := HM.out
    rw [m_SortWith, if_neg (by rw [e]; decide)] at this
    injection this with a b
    exact ⟨a.symm, b.symm⟩
  clear hM hy hz
  cases y with
  | false =>
    obtain ⟨rfl, rfl⟩ := HNo.out (by rw [sortAsk, HY.out, Bool.false_and])
    go_enter Try.func29, Try.ntmps29
    go_wp2_with fail
    refine (HG.out).mono ?_
    rintro e w1 ⟨rfl, b1⟩
    go_wp2_with fail
    go_ret2
    exact ⟨none, 0, 0, rfl, Has.nil_, by omega, b1⟩
  | true =>
    obtain ⟨N, rfl, hNet⟩ := net_yes HY.out
    have n1 := hNet.one
    have n12 := hNet.twelve
    have HNet := Lib.hid hNet
    clear hNet
    by_cases hmn : m = N
    · subst hmn
      have hA := Lib.hid (fun w' (hb : Below w.heap.size w w') => l1All_any X m d xs (-1000000) 1000000 z w' (hX.below hb) hm HZ.out)
      have hS := Lib.hid (fun w' (hb : Below w.heap.size w w') => soWith_any A n c l X m d xs w' (h.below hb) (hX.below hb) hnil HNet.out)
      clear h hX
      cases z with
      | false =>
        obtain ⟨rfl, rfl⟩ := HNo.out (by rw [sortAsk, HZ.out]; simp)
        go_enter Try.func29, Try.ntmps29
        go_wp2_with fail
        refine (HG.out).mono ?_
        rintro e w1 ⟨rfl, b1⟩
        go_wp2_with fail
        refine (hA.out w1 b1).mono ?_
        rintro e w2 ⟨rfl, rfl⟩
        go_wp2_with fail
        go_ret2
        exact ⟨none, 0, 0, rfl, Has.nil_, by omega, b1⟩
      | true =>
        have hR : aft l xs n = rs ∧ true = rb := by
          have := HM.out
          rw [m_SortWith, if_pos (by rw [sortAsk, HY.out, HZ.out, HXL.out]; simp), HL.out] at this
          injection this with a b
          exact ⟨a, b⟩
        obtain ⟨rfl, rfl⟩ := hR
        go_enter Try.func29, Try.ntmps29
        go_wp2_with fail
        refine (HG.out).mono ?_
        rintro e w1 ⟨rfl, b1⟩
        go_wp2_with fail
        refine (hA.out w1 b1).mono ?_
        rintro e w2 ⟨rfl, rfl⟩
        go_wp2_with fail
        refine (hS.out w1 b1).mono ?_
        rintro e w2 ⟨r, c', g, rfl, ho, hf, b2⟩
        go_wp2_with fail
        go_ret2
        exact ⟨_, m, c', rfl, ho.has, hm, b1.trans (b2.mono b1.size)⟩
    · have hmn' : ¬ (m : Int) = (N : Int) := by omega
      have hb0 : ((m : Int) != (N : Int)) = true := by simpa using hmn'
      obtain ⟨rfl, rfl⟩ := HNo.out (by rw [sortAsk, HXL.out, decide_eq_false hmn']; simp)
      go_enter Try.func29, Try.ntmps29
      go_wp2_with fail
      refine (HG.out).mono ?_
      rintro e w1 ⟨rfl, b1⟩
      go_wp2_with fail
      go_ret2
      exact ⟨none, 0, 0, rfl, Has.nil_, by omega, b1⟩

end Go.Proofs.Yteiibneaihdmbaa
