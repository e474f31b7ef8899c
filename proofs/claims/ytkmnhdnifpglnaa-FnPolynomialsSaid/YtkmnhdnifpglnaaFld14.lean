/- What the model's PolyThrough does: for each point the polynomial that is its value there and 0 at the others, and their sum. For slices of at most 16777216 elements. -/
import Derived.Test.YtkmnhdnifpglnaaFld13
namespace Go.Proofs.Ytkmnhdnifpglnaa
open Go.RowKit

/-- The first q elements turned, the others as they were. -/
def stepT (f g : Nat → Int) (n q : Nat) : List Int := mapTo (fun j => if j < q then f j else g j) n
section
variable {f g : Nat → Int} {n q : Nat}
theorem stepT_len : (stepT f g n q).length = n := mapTo_length _ _
theorem stepT_zero : stepT f g n 0 = mapTo g n := mapTo_eq fun j _ => by simp
theorem stepT_end : stepT f g n n = mapTo f n := mapTo_eq fun j hj => by simp [hj]
theorem stepT_at (h : q < n) : (stepT f g n q).getD q 0 = g q := by unfold stepT; rw [mapTo_at _ h, if_neg (by omega)]
theorem stepT_succ : (stepT f g n q).set q (f q) = stepT f g n (q + 1) := by
  unfold stepT
  rw [mapTo_set]
  refine mapTo_eq fun j _ => ?_
  by_cases e : j = q
  · rw [if_pos e, if_pos (by omega), e]
  · rw [if_neg e]
    by_cases e2 : j < q
    · rw [if_pos e2, if_pos (by omega)]
    · rw [if_neg e2, if_neg (by omega)]
end
theorem timesM_len {p a : Int} {l : List Int} : (timesM p l a).length = l.length + 1 := mapTo_length _ _
theorem timesM_in {p a : Int} {l : List Int} (h : 2 ≤ p) : ∀ j, 0 ≤ (timesM p l a).getD j 0 ∧ (timesM p l a).getD j 0 < p := all_in h (mapTo_in h)
theorem partM_in {p y : Int} {xs : List Int} {i : Nat} (h : 2 ≤ p) (y0 : 0 ≤ y) (y1 : y < p) (k : Nat) : ∀ j, 0 ≤ (partM p xs i y k).getD j 0 ∧ (partM p xs i y k).getD j 0 < p := by
  induction k with
  | zero =>
    refine all_in h fun j hj => ?_
    obtain rfl : j = 0 := by simp [partM] at hj; omega
    exact ⟨y0, y1⟩
  | succ k ih =>
    rw [partM]
    split
    · exact ih
    · exact all_in h (mapTo_in h)
theorem Row.new (w : World) (B : Nat) (y : Int) (hB : B ≤ w.heap.size) : Row (w.alloc (.cells #[.int .i64 y] 3)) B w.heap.size 1 [y] :=
  ⟨rfl, World.ownsRow_lit w #[.int .i64 y] 1 hB (by decide) rfl⟩
theorem lagInv_in {p : Int} {xs : List Int} {i k : Nat} (h : 2 ≤ p) : 0 ≤ lagInv p xs i k ∧ lagInv p xs i k < p := powM_in (by omega)

set_option maxRecDepth 100000 in
set_option maxHeartbeats 2000000 in
theorem spec_PolyThrough (p : Int) (A : Option Addr) (n c : Nat) (xs : List Int) (B : Option Addr) (m d : Nat) (ys : List Int) (rs : List Int) (rb : Bool) (w : World) (hp : I64 p) (hx : Has w A n xs) (hn : n ≤ 16777216) (hy : Has w B m ys) (hmm : m ≤ 16777216) (hm : m_PolyThrough p xs ys = (rs, rb)) :
    Calls Try.prog 25 #[.int .i64 p, .slice A n c, .slice B m d] w fun e w' => ∃ R m' c', e = .returned (.tuple #[.slice R m' c', .bool rb]) ∧ Has w' R m' rs ∧ m' ≤ 16777216 ∧ Below w.heap.size w w' := by
  cases hq : ptsOk p xs ys with
  | false =>
    rw [m_PolyThrough, hq, if_neg (by simp)] at hm
    obtain ⟨rfl, rfl⟩ := Prod.mk.inj hm
    have HQ := Lib.hid hq
    clear hm hq
    go_enter Try.func25, Try.ntmps25
    go_wp2_with fail
    refine (fpPoints_any p A B n m c d xs ys false _ hp hx hy hn hmm HQ.out).mono ?_
    rintro e w' ⟨rfl, hb⟩
    go_wp2_with fail
    go_ret2
    exact ⟨none, 0, 0, rfl, Has.nil_, by omega, hb⟩
  | true =>
    rw [m_PolyThrough, hq, if_pos rfl] at hm
    obtain ⟨hpts, h12⟩ := ptsOk_yes hq
    have hl := hx.1
    have hly := hpts.ly
    rw [hl] at hpts hm hly h12
    have hym := hy.1
    obtain rfl : n = m := by omega
    obtain ⟨h1, rfl⟩ := Prod.mk.inj hm
    have H1 := Lib.hid h1
    have HQ := Lib.hid hq
    have HX := Lib.hid hpts.inx
    have HY := Lib.hid hpts.iny
    obtain ⟨p2, p251⟩ := hpts.two
    clear hm hq hpts hl hly hym h1
    go_enter Try.func25, Try.ntmps25
    go_wp2_with fail
    refine (fpPoints_any p A B n n c d xs ys true _ hp hx hy hn hmm HQ.out).mono ?_
    rintro e w1 ⟨rfl, hb1⟩
    have hs1 := hb1.size
    go_wp2_with (at_make; refine makeRow _ rfl _ rfl n rfl hn ?_; intro w2 hrow hb2)
    have hb3 := hb1.trans (hb2.mono hs1)
    have hrow : Row w2 w1.heap.size w1.heap.size n (sumM p xs ys n 0) := hrow
    obtain ⟨g0, hg0⟩ : ∃ g0, w1.heap.size = g0 := ⟨_, rfl⟩
    rw [hg0] at hrow hs1 ⊢
    clear hb2 hb1 hg0
    go_loopw [28] (fun iv wr => ∃ i : Nat, i ≤ n ∧ iv = .int .i64 i ∧ Row wr g0 g0 n (sumM p xs ys n i) ∧ Below w.heap.size w wr) (fun iv _ => n - (intOf iv).toNat)
    case atStart => exact ⟨0, Nat.zero_le _, rfl, hrow, hb3⟩
    case round =>
      obtain ⟨i, hi, rfl, hro, hb⟩ := hrel
      by_cases hlt : i < n
      · obtain ⟨bd, y, rfl, hcy, HE⟩ := (hy.below hb).elem hlt
        obtain ⟨y0, y1⟩ : 0 ≤ y ∧ y < p := by rw [HE.out]; exact HY.out i hlt
        have hlo := hro.lt.2
        have hpart := Row.new wr (g0 + 1) y (by omega)
        have hro2 := hro.below (belowNew wr (.cells #[.int .i64 y] 3))
        have hb2 := hb.trans ((belowNew wr (.cells #[.int .i64 y] 3)).mono hb.size)
        go_wp2
        go_loopw [11, 37] (fun pv kv w2 => ∃ (k g q : Nat), k ≤ n ∧ kv = .int .i64 k ∧ pv = .slice (some ⟨g, 0, none⟩) q q ∧ q ≤ k + 1 ∧ Row w2 (g0 + 1) g q (partM p xs i y k) ∧ Row w2 g0 g0 n (sumM p xs ys n i) ∧ Below w.heap.size w w2) (fun _ kv _ => n - (intOf kv).toNat)
        case atStart => exact ⟨0, _, 1, Nat.zero_le _, rfl, rfl, by omega, hpart, hro2, hb2⟩
        case round =>
          obtain ⟨k, g, q, hk, rfl, rfl, hqk, hpr, hrr, hbb⟩ := hrel
          by_cases hlk : k < n
          · have hxr := hx.below hbb
            obtain ⟨ad, z, rfl, hcz, HZ⟩ := hxr.elem hlk
            obtain ⟨z0, z1⟩ : 0 ≤ z ∧ z < p := by rw [HZ.out]; exact HX.out k hlk
            by_cases hki : k = i
            · subst hki
              go_wp2
              go_roundw
              case rel => exact ⟨k + 1, g, q, by omega, by go_num, rfl, by omega, by rw [partM, if_pos rfl]; exact hpr, hrr, hbb⟩
              case measure => simp [intOf]; omega
            · have hki' : ((k : Int) != (i : Int)) = true := by simp; omega
              obtain ⟨ad', zi, he', hci, HI⟩ := hxr.elem hlt
              obtain rfl := Option.some.inj he'
              obtain ⟨i0, i1⟩ : 0 ≤ zi ∧ zi < p := by rw [HI.out]; exact HX.out i hlt
              obtain ⟨u, hu⟩ : ∃ u, (zi - z) % p = u := ⟨_, rfl⟩
              obtain ⟨u0, u1⟩ : 0 ≤ u ∧ u < p := by rw [← hu]; exact modIn p2
              obtain ⟨s, hs⟩ : ∃ s, powM p u (p.toNat - 2) = s := ⟨_, rfl⟩
              obtain ⟨s0, s1⟩ : 0 ≤ s ∧ s < p := by rw [← hs]; exact powM_in (by omega)
              have HLag : Hid (lagInv p xs i k = s) := by show _ = _; rw [lagInv, ← HI.out, ← HZ.out, hu, hs]
              obtain ⟨a, ha⟩ : ∃ a, -z % p = a := ⟨_, rfl⟩
              obtain ⟨a0, a1⟩ : 0 ≤ a ∧ a < p := by rw [← ha]; exact modIn p2
              have HU := Lib.hid hu
              have HS := Lib.hid hs
              have HA := Lib.hid ha
              have hlenp := hpr.1
              have HQL := Lib.hid hlenp
              clear hu hs ha hlenp
              have hlo2 := hrr.lt.2
              go_wp2_with fail
              refine (mod_any (zi - z) p u _ (by omega) (by omega) (by omega) (by omega) HU.out).mono ?_
              rintro e w' ⟨rfl, rfl⟩
              go_wp2_with fail
              refine (specInv_any p u s _ p2 p251 u0 u1 HS.out).mono ?_
              rintro e w' ⟨rfl, rfl⟩
              go_wp2_with fail
              refine (mod_any (-z) p a _ (by omega) (by omega) (by omega) (by omega) HA.out).mono ?_
              rintro e w' ⟨rfl, rfl⟩
              go_wp2_with fail
              refine (fpTimes_any p _ q q (partM p xs i y k) a _ p2 p251 a0 a1 hpr.has (by omega) (partM_in p2 y0 y1 k)).mono ?_
              rintro e w3 ⟨g2, rfl, hr2, hb4⟩
              have hr3 := hr2.mono (S := g0 + 1) (by omega)
              have hrr3 := hrr.below hb4
              have hbb3 := hbb.trans (hb4.mono hbb.size)
              have eT : timesM p (partM p xs i y k) a = stepT (fun j => (timesM p (partM p xs i y k) a).getD j 0 * s % p) (fun j => (timesM p (partM p xs i y k) a).getD j 0) (q + 1) 0 := by
                rw [stepT_zero]
                conv => lhs; rw [list_eq_mapTo (timesM p (partM p xs i y k) a), timesM_len, HQL.out]
              rw [eT] at hr3
              clear hr2 hb4 hrr hbb hpr eT hxr hci hcz
              go_wp2
              go_loopw [64] (fun rv w4 => ∃ r : Nat, r ≤ q + 1 ∧ rv = .int .i64 r ∧ Row w4 (g0 + 1) g2 (q + 1) (stepT (fun j => (timesM p (partM p xs i y k) a).getD j 0 * s % p) (fun j => (timesM p (partM p xs i y k) a).getD j 0) (q + 1) r) ∧ Row w4 g0 g0 n (sumM p xs ys n i) ∧ Below w.heap.size w w4) (fun rv _ => q + 1 - (intOf rv).toNat)
              case atStart => exact ⟨0, Nat.zero_le _, rfl, hr3, hrr3, hbb3⟩
              case round =>
                obtain ⟨r, hr, rfl, hp4, ho4, hb4⟩ := hrel
                by_cases hlr : r < q + 1
                · have hcr := hp4.cell hlr
                  rw [stepT_at hlr] at hcr
                  obtain ⟨t, ht⟩ : ∃ t, (timesM p (partM p xs i y k) a).getD r 0 = t := ⟨_, rfl⟩
                  obtain ⟨t0, t1⟩ : 0 ≤ t ∧ t < p := by rw [← ht]; exact timesM_in p2 r
                  rw [ht] at hcr
                  have HT := Lib.hid ht
                  obtain ⟨m0, m1⟩ := mulFits p251 t0 t1 s0 s1
                  have tm := tmodPos (a := t * s) (b := p) m0
                  have hfr := hp4.free r
                  have hg2 := hp4.lt
                  clear ht
                  go_wp2
                  go_roundw
                  case rel =>
                    have h5 := hp4.put r (t * s % p)
                    have e5 : t * s % p = (fun j => (timesM p (partM p xs i y k) a).getD j 0 * s % p) r := by rw [← HT.out]
                    rw [e5, stepT_succ, ← e5] at h5
                    exact ⟨r + 1, by omega, by go_num, h5, ho4.other (by omega) r _, hb4.setCell (by show w.heap.size ≤ g2; omega) _⟩
                  case measure => simp [intOf]; omega
                · obtain rfl : r = q + 1 := by omega
                  rw [stepT_end] at hp4
                  go_wp2
                  go_roundw
                  case rel =>
                    refine ⟨k + 1, g2, q + 1, by omega, by go_num, rfl, by omega, ?_, ho4, hb4⟩
                    rw [partM, if_neg hki, HLag.out, ← HZ.out, HA.out, HQL.out]
                    exact hp4
                  case measure => simp [intOf]; omega
          · obtain rfl : n = k := by omega
            have hqn : q = n := by
              have h5 := hpr.1
              rw [partM_len, if_pos hlt] at h5
              omega
            subst hqn
            have hpi := Lib.hid (partM_in (p := p) (xs := xs) (i := i) p2 y0 y1 q)
            have hsi := Lib.hid (sumM_in (xs := xs) (ys := ys) (n := q) p2 i)
            have eS : sumM p xs ys q i = stepT (fun j => ((sumM p xs ys q i).getD j 0 + (partM p xs i y q).getD j 0) % p) (fun j => (sumM p xs ys q i).getD j 0) q 0 := by
              rw [stepT_zero]
              conv => lhs; rw [list_eq_mapTo (sumM p xs ys q i), sumM_len]
            have hrr' := hrr
            rw [eS] at hrr'
            clear hrr eS
            go_wp2
            go_loopw [82] (fun rv w4 => ∃ r : Nat, r ≤ q ∧ rv = .int .i64 r ∧ Row w4 g0 g0 q (stepT (fun j => ((sumM p xs ys q i).getD j 0 + (partM p xs i y q).getD j 0) % p) (fun j => (sumM p xs ys q i).getD j 0) q r) ∧ Row w4 (g0 + 1) g q (partM p xs i y q) ∧ Below w.heap.size w w4) (fun rv _ => q - (intOf rv).toNat)
            case atStart => exact ⟨0, Nat.zero_le _, rfl, hrr', hpr, hbb⟩
            case round =>
              obtain ⟨r, hr, rfl, ho4, hp4, hb4⟩ := hrel
              by_cases hlr : r < q
              · have hcr := ho4.cell hlr
                rw [stepT_at hlr] at hcr
                have hcp := hp4.cell hlr
                obtain ⟨t, ht⟩ : ∃ t, (sumM p xs ys q i).getD r 0 = t := ⟨_, rfl⟩
                obtain ⟨t0, t1⟩ : 0 ≤ t ∧ t < p := by rw [← ht]; exact hsi.out r hlr
                rw [ht] at hcr
                obtain ⟨v, hv⟩ : ∃ v, (partM p xs i y q).getD r 0 = v := ⟨_, rfl⟩
                obtain ⟨v0, v1⟩ : 0 ≤ v ∧ v < p := by rw [← hv]; exact hpi.out r
                rw [hv] at hcp
                have HT := Lib.hid ht
                have HV := Lib.hid hv
                have tm := tmodPos (a := t + v) (b := p) (by omega)
                have hfr := ho4.free r
                have hg2 := hp4.lt
                clear ht hv
                go_wp2
                go_roundw
                case rel =>
                  have h5 := ho4.put r ((t + v) % p)
                  have e5 : (t + v) % p = (fun j => ((sumM p xs ys q i).getD j 0 + (partM p xs i y q).getD j 0) % p) r := by rw [← HT.out, ← HV.out]
                  rw [e5, stepT_succ, ← e5] at h5
                  exact ⟨r + 1, by omega, by go_num, h5, hp4.other (by omega) r _, hb4.setCell (by show w.heap.size ≤ g0; omega) _⟩
                case measure => simp [intOf]; omega
              · obtain rfl : r = q := by omega
                rw [stepT_end] at ho4
                go_wp2
                go_roundw
                case rel =>
                  refine ⟨i + 1, by omega, by go_num, ?_, hb4⟩
                  rw [sumM, ← HE.out]
                  exact ho4
                case measure => simp [intOf]; omega
      · obtain rfl : i = n := by omega
        go_wp2
        go_ret2
        obtain rfl := H1.out
        exact ⟨some ⟨g0, 0, none⟩, i, i, rfl, hro.has, hn, hb⟩

end Go.Proofs.Ytkmnhdnifpglnaa
