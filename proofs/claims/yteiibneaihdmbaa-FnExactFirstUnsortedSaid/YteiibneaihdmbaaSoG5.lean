/- The model's needless steps (soNeedless), NeedlessSteps, PruneNetwork. For valid networks. -/
import Derived.Test.YteiibneaihdmbaaSoG3
import Derived.Test.YteiibneaihdmbaaSo2
import Derived.Test.YteiibneaihdmbaaCirG8
import Derived.Deep.DeepCutAuto
namespace Go.Proofs.Yteiibneaihdmbaa
open Go Go.RowKit
set_option maxRecDepth 100000

theorem usedN_next {m k n j : Nat} {l : List St} (h : j < n) : (usedN m l k j || didTo l (bitsN m k) n j) = usedN m l (k + 1) j := by rw [usedN, didTo, if_pos h]
/-- What a step has done is added to what is known. -/
theorem usedN_put {m k i j : Nat} {l : List St} {d : Bool} (h : didAt l (bitsN m k) i = d) : (if j = i then (usedN m l k i || d) else (usedN m l k j || didTo l (bitsN m k) i j)) = (usedN m l k j || didTo l (bitsN m k) (i + 1) j) := by
  rw [← didTo_next h]
  by_cases e : j = i
  · subst e; rw [if_pos rfl, if_pos rfl]
  · rw [if_neg e, if_neg e]
theorem usedN_start {m k j : Nat} {l : List St} {xs : List Int} : usedN m l k j = (usedN m l k j || didTo l xs 0 j) := by simp [didTo]

set_option maxRecDepth 100000 in
set_option maxHeartbeats 2000000 in
theorem soNeedless_any (A : Option Addr) (n c : Nat) (l : List St) (m : Nat) (w : World) (h : HasT w A n l) (hN : Net m l) :
    Calls Try.prog 103 #[.int .i64 (m : Int), .slice A n c] w fun e w' => ∃ R k c', e = .returned (.slice R k c') ∧ Own w' w.heap.size R k c' (outsN (needsN m l) n) ∧ Below w.heap.size w w' := by
  have hn : n ≤ 60 := by rw [← h.1]; exact hN.short
  have hm0 := hN.one
  have hm1 := hN.twelve
  have HL := Lib.hid h.1
  have HN := Lib.hid hN
  obtain ⟨N, hP, hNI, N1, N4⟩ := pow12 hm1
  have HP := Lib.hid hP
  have HE64 : Hid (wrap64 ((2 : Int) ^ m) = (N : Int)) := by show _ = _; rw [hNI]; unfold wrap64; omega
  clear hN hP hNI
  go_enter Try.func103, Try.ntmps103
  go_wp2_with (at_make; refine makeBools _ rfl _ rfl n rfl (by omega) ?_; intro w1 hrow b1)
  have hf : RowB w1 w.heap.size w.heap.size n (usedN m l 0) := hrow
  obtain ⟨u, hu⟩ : ∃ u, u = w.heap.size := ⟨_, rfl⟩
  have u0 : w.heap.size ≤ u := by omega
  rw [← hu] at hf ⊢
  have HF := Lib.hid hf
  clear hrow hf hu
  go_loopw [6] (fun iv wr => ∃ k : Nat, k ≤ N ∧ iv = .int .i64 k ∧ RowB wr u u n (usedN m l k) ∧ Below w.heap.size w wr) (fun iv _ => N - (intOf iv).toNat)
  case atStart => exact ⟨0, Nat.zero_le _, rfl, HF.out, b1⟩
  case round =>
    obtain ⟨k, hk, rfl, hf, bk⟩ := hrel
    have q0 : (0 : Int) ≤ (k : Int) := by omega
    have p0 : (0 : Int) ≤ (m : Int) := by omega
    have ul : u < wr.heap.size := hf.lt.2
    have HFk := Lib.hid hf
    clear HF hf
    by_cases hlt : k < N
    · have hlt' : (k : Int) < (N : Int) := by omega
      have e64 := HE64.out
      have HBt := Lib.hid (btOf_any (k : Int) m wr q0 (by omega) (by omega))
      go_wp2_with fail
      clear e64
      refine (HBt.out).mono ?_
      rintro e w2 ⟨R2, c2, rfl, o2, b2⟩
      have B2 := bk.trans (b2.mono bk.size)
      have o2' : Own w2 wr.heap.size R2 m c2 (bitsN m k) := o2
      have HW := Lib.hid (soWith_any A n c l R2 m c2 (bitsN m k) w2 (h.below B2) o2'.has (own_nilOk o2') HN.out)
      clear o2 o2' HBt
      go_wp2_with fail
      refine (HW.out).mono ?_
      rintro e w3 ⟨r, c3, g, rfl, o3, hg, b3⟩
      have B3 := B2.trans (b3.mono B2.size)
      have hf3 := (HFk.out.below b2).below b3
      have gl := hg.lt
      have z2 := b2.size
      have gu : ¬ g = u := by omega
      have HG := Lib.hid hg
      have HF3 : Hid (RowB w3 u u n (fun j => usedN m l k j || didTo l (bitsN m k) 0 j)) := hf3.congr (fun j _ => usedN_start)
      clear o3 hg HW b2 b3 bk hf3 HFk
      go_wp2_with fail
      go_loopw [34] (fun jv wq => ∃ j : Nat, j ≤ n ∧ jv = .int .i64 j ∧ RowB wq u u n (fun x => usedN m l k x || didTo l (bitsN m k) j x) ∧ Hid (w3.grownBy wq (some u))) (fun jv _ => n - (intOf jv).toNat)
      case atStart => exact ⟨0, Nat.zero_le _, rfl, HF3.out, World.grownBy.refl _ _⟩
      case round =>
        obtain ⟨j, hj, rfl, hfj, GJ⟩ := hrel
        by_cases hlj : j < n
        · have j0 : (0 : Int) ≤ (j : Int) := by omega
          have j1 : (j : Int) < (n : Int) := by omega
          obtain ⟨d, hd⟩ : ∃ d, didAt l (bitsN m k) j = d := ⟨_, rfl⟩
          obtain ⟨b, hb⟩ : ∃ b, usedN m l k j = b := ⟨_, rfl⟩
          have cD : wr.cell? ⟨g, j, none⟩ = some (.bool d) := by rw [← hd]; exact (HG.out.grown GJ.out (by simpa using gu)).cell hlj
          have cU : wr.cell? ⟨u, j, none⟩ = some (.bool b) := by rw [← hb, hfj.cell hlj]; simp [didTo]
          have fU := hfj.free j
          have HX : Hid (∀ x, (if x = j then (b || d) else (usedN m l k x || didTo l (bitsN m k) j x)) = (usedN m l k x || didTo l (bitsN m k) (j + 1) x)) := fun x => by rw [← hb]; exact usedN_put hd
          have HFJ := Lib.hid hfj
          clear hd hb hfj
          cases b with
          | true =>
            go_wp2_with fail
            go_roundw
            case rel => exact ⟨j + 1, by omega, by go_num, (HFJ.out.put j _).congr (fun x _ => HX.out x), grown_setCell GJ.out _ _⟩
            case measure => simp [intOf]; omega
          | false =>
            go_wp2_with fail
            go_roundw
            case rel => exact ⟨j + 1, by omega, by go_num, (HFJ.out.put j _).congr (fun x _ => by have := HX.out x; simpa using this), grown_setCell GJ.out _ _⟩
            case measure => simp [intOf]; omega
        · obtain rfl : j = n := by omega
          have hfn : RowB wr u u j (usedN m l (k + 1)) := hfj.congr (fun x hx => usedN_next hx)
          have B5 := B3.grown GJ.out B3.size (fun x hx => by cases hx; exact u0)
          clear hfj
          go_wp2_with fail
          go_roundw
          case rel => exact ⟨k + 1, by omega, by go_num, hfn, B5⟩
          case measure => simp [intOf]; omega
    · obtain rfl : k = N := by omega
      have e64 := HE64.out
      have hfn : RowB wr u u n (needsN m l) := HFk.out.congr (fun x _ => by rw [needsN, HP.out])
      have HFN := Lib.hid hfn
      have sz := bk.size
      clear hfn HFk
      go_wp2_with fail
      clear e64
      obtain ⟨wv, rfl⟩ : ∃ x, x = wr := ⟨_, rfl⟩
      go_loopw [11, 52] (fun vv jv wq => ∃ (j q c' : Nat) (R : Option Addr), j ≤ n ∧ jv = .int .i64 j ∧ vv = .slice R q c' ∧ Own wq wv.heap.size R q c' (outsN (needsN m l) j) ∧ Below wv.heap.size wv wq) (fun _ jv _ => n - (intOf jv).toNat)
      case atStart => exact ⟨0, 0, 0, none, Nat.zero_le _, rfl, rfl, Own.nil_ _ _, Below.refl _ _⟩
      case round =>
        obtain ⟨j, q, c', R, hj, rfl, rfl, ho, bj⟩ := hrel
        by_cases hlj : j < n
        · have j0 : (0 : Int) ≤ (j : Int) := by omega
          have j1 : (j : Int) < (n : Int) := by omega
          obtain ⟨b, hb⟩ : ∃ b, needsN m l j = b := ⟨_, rfl⟩
          have cU := (HFN.out.below bj).cell hlj
          rw [hb] at cU
          have hq : q ≤ 60 := by rw [← ho.1]; have := outsN_length (needsN m l) j; omega
          have HB := Lib.hid hb
          have sj := bj.size
          clear hb
          cases b with
          | true =>
            have HX : Hid (outsN (needsN m l) (j + 1) = outsN (needsN m l) j) := by show _ = _; rw [outsN, if_pos HB.out]
            go_wp2_with fail
            go_roundw
            case rel => exact ⟨j + 1, q, c', R, by omega, by go_num, rfl, by rw [HX.out]; exact ho, bj⟩
            case measure => simp [intOf]; omega
          | false =>
            have HX : Hid (outsN (needsN m l) j ++ [(j : Int)] = outsN (needsN m l) (j + 1)) := by show _ = _; rw [outsN, if_neg (by rw [HB.out]; decide)]
            go_wp2_with (at_builtin; refine appendInt _ rfl (.tmp 59) (.tmp 61) rfl (j : Int) wv.heap.size _ q _ rfl rfl ho.2 (by omega) sj ?_; intro v6 w6 o6 b6; obtain ⟨R6, c6, rfl, ho6⟩ := ownOf o6)
            rw [HX.out] at ho6
            go_roundw
            case rel => exact ⟨j + 1, q + 1, c6, R6, by omega, by go_num, rfl, ho6, bj.trans b6⟩
            case measure => simp [intOf]; omega
        · obtain rfl : j = n := by omega
          go_wp2_with fail
          go_ret
          exact ⟨R, q, c', rfl, ho.mono sz, bk.trans (bj.mono sz)⟩

set_option maxHeartbeats 2000000 in
theorem spec_NeedlessSteps (x : Int) (A : Option Addr) (n c : Nat) (l : List St) (rs : List Int) (rb : Bool) (w : World) (_hx : I64 x) (h : HasT w A n l) (hn : n ≤ 1048576) (_ : NilOk A n c) (hM : m_NeedlessSteps x l = (rs, rb)) :
    Calls Try.prog 50 #[.int .i64 x, .slice A n c] w fun e w' => ∃ R k c', e = .returned (.tuple #[.slice R k c', .bool rb]) ∧ Has w' R k rs ∧ k ≤ 16777216 ∧ Below w.heap.size w w' := by
  have HL := Lib.hid h.1
  obtain ⟨y, hy⟩ : ∃ y, netB x l = y := ⟨_, rfl⟩
  have HG := Lib.hid (soGood_any x A n c l y w h hn hy)
  have HM := Lib.hid hM
  have HY := Lib.hid hy
  clear hM hy
  cases y with
  | false =>
    have hR : [] = rs ∧ false = rb := by
      have := HM.out
      rw [m_NeedlessSteps, if_neg (by rw [HY.out]; decide)] at this
      injection this with a b
      exact ⟨a, b⟩
    obtain ⟨rfl, rfl⟩ := hR
    go_enter Try.func50, Try.ntmps50
    go_wp2_with fail
    refine (HG.out).mono ?_
    rintro e w1 ⟨rfl, b1⟩
    go_wp2_with fail
    go_ret2
    exact ⟨none, 0, 0, rfl, Has.nil_, by omega, b1⟩
  | true =>
    obtain ⟨m, rfl, hNet⟩ := net_yes HY.out
    have hR : outsN (needsN m l) n = rs ∧ true = rb := by
      have := HM.out
      rw [m_NeedlessSteps, if_pos HY.out, Int.toNat_natCast, HL.out] at this
      injection this with a b
      exact ⟨a, b⟩
    obtain ⟨rfl, rfl⟩ := hR
    have HS := Lib.hid (fun w' (hb : Below w.heap.size w w') => soNeedless_any A n c l m w' (h.below hb) hNet)
    clear h hNet
    go_enter Try.func50, Try.ntmps50
    go_wp2_with fail
    refine (HG.out).mono ?_
    rintro e w1 ⟨rfl, b1⟩
    go_wp2_with fail
    refine (HS.out w1 b1).mono ?_
    rintro e w2 ⟨R, k, c', rfl, ho, b2⟩
    have hk : k ≤ 1048576 := by rw [← ho.1]; have := outsN_length (needsN m l) n; omega
    go_wp2_with fail
    go_ret2
    exact ⟨R, k, c', rfl, ho.has, by omega, b1.trans (b2.mono b1.size)⟩

theorem outs_has (f : Nat → Bool) {n j : Nat} (h : j < n) : (outsN f n).contains (j : Int) = !f j := by
  cases e : f j with
  | true =>
    show (outsN f n).contains (j : Int) = false
    simp only [List.contains_eq_mem, decide_eq_false_iff_not]
    rw [outsN_mem]
    rintro ⟨_, h2⟩
    rw [e] at h2
    cases h2
  | false =>
    simp only [List.contains_eq_mem, Bool.not_false, decide_eq_true_eq]
    rw [outsN_mem]
    exact ⟨h, e⟩

set_option maxHeartbeats 2000000 in
theorem spec_PruneNetwork (x : Int) (A : Option Addr) (n c : Nat) (l : List St) (rs : List St) (rb : Bool) (w : World) (_hx : I64 x) (h : HasT w A n l) (hn : n ≤ 1048576) (_ : NilOk A n c) (hM : m_PruneNetwork x l = (rs, rb)) :
    Calls Try.prog 52 #[.int .i64 x, .slice A n c] w fun e w' => ∃ R k c', e = .returned (.tuple #[.slice R k c', .bool rb]) ∧ HasT w' R k rs ∧ k ≤ 1048576 ∧ Below w.heap.size w w' := by
  have HL := Lib.hid h.1
  obtain ⟨y, hy⟩ : ∃ y, netB x l = y := ⟨_, rfl⟩
  have HG := Lib.hid (soGood_any x A n c l y w h hn hy)
  have HM := Lib.hid hM
  have HY := Lib.hid hy
  clear hM hy
  cases y with
  | false =>
    have hR : [] = rs ∧ false = rb := by
      have := HM.out
      rw [m_PruneNetwork, if_neg (by rw [HY.out]; decide)] at this
      injection this with a b
      exact ⟨a, b⟩
    obtain ⟨rfl, rfl⟩ := hR
    go_enter Try.func52, Try.ntmps52
    go_wp2_with fail
    refine (HG.out).mono ?_
    rintro e w1 ⟨rfl, b1⟩
    go_wp2_with fail
    go_ret2
    exact ⟨none, 0, 0, rfl, HasT.nil_, by omega, b1⟩
  | true =>
    obtain ⟨m, rfl, hNet⟩ := net_yes HY.out
    have hn60 : n ≤ 60 := by rw [← h.1]; exact hNet.short
    have hR : keptT (needsN m l) l n = rs ∧ true = rb := by
      have := HM.out
      rw [m_PruneNetwork, if_pos HY.out, Int.toNat_natCast, HL.out] at this
      injection this with a b
      exact ⟨a, b⟩
    obtain ⟨rfl, rfl⟩ := hR
    have HS := Lib.hid (fun w' (hb : Below w.heap.size w w') => soNeedless_any A n c l m w' (h.below hb) hNet)
    clear hNet
    go_enter Try.func52, Try.ntmps52
    go_wp2_with fail
    refine (HG.out).mono ?_
    rintro e w1 ⟨rfl, b1⟩
    go_wp2_with fail
    refine (HS.out w1 b1).mono ?_
    rintro e w2 ⟨R, k, c', rfl, ho, b2⟩
    have B2 := b1.trans (b2.mono b1.size)
    have hk : k ≤ 60 := by rw [← ho.1]; have := outsN_length (needsN m l) n; omega
    have h2 := h.below B2
    have HH := Lib.hid h2
    have HO := Lib.hid ho
    have sz := B2.size
    clear ho h h2 HS
    go_wp2_with fail
    go_loopw [7, 19] (fun vv jv wq => ∃ (j q d : Nat) (R : Option Addr), j ≤ n ∧ jv = .int .i64 j ∧ vv = .slice R q d ∧ OwnT wq w2.heap.size R q d (keptT (needsN m l) l j) ∧ Below w2.heap.size w2 wq) (fun _ jv _ => n - (intOf jv).toNat)
    case atStart => exact ⟨0, 0, 0, none, Nat.zero_le _, rfl, rfl, OwnT.nil_ _ _, Below.refl _ _⟩
    case round =>
      obtain ⟨j, q, d, X, hj, rfl, rfl, ht, bj⟩ := hrel
      by_cases hlj : j < n
      · have j0 : (0 : Int) ≤ (j : Int) := by omega
        have j1 : (j : Int) < (n : Int) := by omega
        obtain ⟨ad, u, v, rfl, hu, hv, HE⟩ := (HH.out.below bj).elem hlj
        obtain ⟨b, hb⟩ : ∃ b, needsN m l j = b := ⟨_, rfl⟩
        have B1 := belowNew wr (.cells #[.int .i64 u, .int .i64 v] 93)
        have HC := Lib.hid (l1Has_mem R k c' _ (j : Int) (!b) _ ((HO.out.has.below bj).below B1) (by omega) (by rw [outs_has _ hlj, hb]))
        have hq : q ≤ 60 := by rw [← ht.1]; have := keptT_length (needsN m l) l j; omega
        have HB := Lib.hid hb
        have HT := Lib.hid ht
        have sj := bj.size
        clear hb ht
        cases b with
        | false =>
          have HX : Hid (keptT (needsN m l) l (j + 1) = keptT (needsN m l) l j) := by show _ = _; rw [keptT, if_neg (by rw [HB.out]; decide)]
          go_wp2_with fail
          refine (HC.out).mono ?_
          rintro e w3 ⟨rfl, rfl⟩
          go_wp2_with fail
          go_roundw
          case rel => exact ⟨j + 1, q, d, X, by omega, by go_num, rfl, by rw [HX.out]; exact HT.out.below B1, bj.trans (B1.mono sj)⟩
          case measure => simp [intOf]; omega
        | true =>
          have HX : Hid (keptT (needsN m l) l j ++ [(u, v)] = keptT (needsN m l) l (j + 1)) := by show _ = _; rw [keptT, if_pos HB.out, HE.out]
          go_wp2_with fail
          refine (HC.out).mono ?_
          rintro e w3 ⟨rfl, rfl⟩
          go_wp2_with (at_builtin; refine appendStep _ rfl (.tmp 28) (.tmp 30) rfl u v w2.heap.size X q d _ rfl (by simp [Act.eval]) (HT.out.below B1) (by omega) (Nat.le_trans sj B1.size) ?_; intro R6 c6 w6 o6 b6 _)
          rw [HX.out] at o6
          go_roundw
          case rel => exact ⟨j + 1, q + 1, c6, R6, by omega, by go_num, rfl, o6, (bj.trans (B1.mono sj)).trans b6⟩
          case measure => simp [intOf]; omega
      · obtain rfl : j = n := by omega
        have hq : q ≤ 60 := by rw [← ht.1]; have := keptT_length (needsN m l) l j; omega
        have HT := Lib.hid ht
        clear ht
        go_wp2_with fail
        go_ret2
        exact ⟨X, q, d, rfl, HT.out.has, by omega, B2.trans (bj.mono sz)⟩

end Go.Proofs.Yteiibneaihdmbaa
