/- The program's needed steps, NeedlessSteps, PruneNetwork. For valid networks. -/
import Derived.Test.YteiibneaihdmbaaSoI2
import Derived.Test.YteiibneaihdmbaaSoG5
import Derived.Test.YteiibneaihdmbaaSo2
import Derived.Deep.DeepCutAuto
namespace Go.Proofs.Yteiibneaihdmbaa
open Go Go.RowKit
set_option maxRecDepth 100000

theorem bitsOf_bitsN (m k N : Nat) (w : World) (hm : m ≤ 12) (hN : (2 : Int) ^ m = (N : Int)) (h4 : N ≤ 4096) (hk : k < N) :
    Calls Try.prog 96 #[.int .i64 (k : Int), .int .i64 (m : Int)] w fun e w' => ∃ R c', e = .returned (.tuple #[.slice R m c', .bool true]) ∧ Own w' w.heap.size R m c' (bitsN m k) ∧ Below w.heap.size w w' :=
  (impl_BitsOf (k : Int) (m : Int) (bitsN m k) true w ⟨by omega, by omega⟩ ⟨by omega, by omega⟩ (by
    rw [m_BitsOf, Int.toNat_natCast, if_pos ⟨by omega, by omega, by omega, by rw [hN]; omega⟩]; rfl)).mono
    fun e w' ⟨R, q, c', he, ho, _, hb⟩ => by
      obtain rfl : m = q := by rw [← ho.1, bitsN_length]
      exact ⟨R, c', he, ho, hb⟩

set_option maxRecDepth 100000 in
set_option maxHeartbeats 2000000 in
theorem neededSteps_any (A : Option Addr) (n c : Nat) (l : List St) (m : Nat) (w : World) (h : HasT w A n l) (hN : Net m l) :
    Calls Try.prog 104 #[.int .i64 (m : Int), .slice A n c] w fun e w' => ∃ g, e = .returned (.slice (some ⟨g, 0, none⟩) n n) ∧ RowB w' w.heap.size g n (needsN m l) ∧ Below w.heap.size w w' := by
  have hn : n ≤ 60 := by rw [← h.1]; exact hN.short
  have hm0 := hN.one
  have hm1 := hN.twelve
  have HL := Lib.hid h.1
  have HN := Lib.hid hN
  obtain ⟨N, hP, hNI, N1, N4⟩ := pow12 hm1
  have HP := Lib.hid hP
  have HE64 : Hid (wrap64 ((2 : Int) ^ m) = (N : Int)) := by show _ = _; rw [hNI]; unfold wrap64; omega
  have HNI := Lib.hid hNI
  clear hN hP hNI
  have e64 := HE64.out
  have mm0 : (0 : Int) ≤ (m : Int) := by omega
  go_enter Try.func104, Try.ntmps104
  go_wp2_with (at_make; refine makeBools _ rfl _ rfl n rfl (by omega) ?_; intro w1 hrow b1)
  clear e64
  have hf : RowB w1 w.heap.size w.heap.size n (usedN m l 0) := hrow
  obtain ⟨u, hu⟩ : ∃ u, u = w.heap.size := ⟨_, rfl⟩
  have u0 : w.heap.size ≤ u := by omega
  rw [← hu] at hf ⊢
  have HF := Lib.hid hf
  clear hrow hf hu
  rw [HE64.out]
  go_loopw [16] (fun iv wr => ∃ k : Nat, k ≤ N ∧ iv = .int .i64 k ∧ RowB wr u u n (usedN m l k) ∧ Below w.heap.size w wr) (fun iv _ => N - (intOf iv).toNat)
  case atStart => exact ⟨0, Nat.zero_le _, rfl, HF.out, b1⟩
  case round =>
    obtain ⟨k, hk, rfl, hf, bk⟩ := hrel
    have q0 : (0 : Int) ≤ (k : Int) := by omega
    have ul : u < wr.heap.size := hf.lt.2
    have HFk := Lib.hid hf
    clear HF hf
    by_cases hlt : k < N
    · have hlt' : (k : Int) < (N : Int) := by omega
      have HBt := Lib.hid (bitsOf_bitsN m k N wr hm1 HNI.out N4 hlt)
      go_wp2_with fail
      refine (HBt.out).mono ?_
      rintro e w2 ⟨R2, c2, rfl, o2, b2⟩
      obtain ⟨r, rfl⟩ := o2.spot (by omega)
      have B2 := bk.trans (b2.mono bk.size)
      have rb := o2.born _ rfl
      have ru : ¬ r = u := by have := rb.1; simp at this; omega
      have ur : ¬ u = r := fun e => ru e.symm
      have r0 : w.heap.size ≤ r := by have := rb.1; have := bk.size; simp at *; omega
      have HF3 : Hid (RowB w2 u u n (fun j => usedN m l k j || didTo l (bitsN m k) 0 j)) := (HFk.out.below b2).congr (fun j _ => usedN_start)
      have HO := Lib.hid (o2.mono bk.size)
      clear o2 HBt b2 bk HFk rb
      go_wp2_with fail
      go_loopw [27] (fun jv wq => ∃ j : Nat, j ≤ n ∧ jv = .int .i64 j ∧ Own wq w.heap.size (some ⟨r, 0, none⟩) m c2 (aft l (bitsN m k) j) ∧ RowB wq u u n (fun x => usedN m l k x || didTo l (bitsN m k) j x) ∧ Below w.heap.size w wq) (fun jv _ => n - (intOf jv).toNat)
      case atStart => exact ⟨0, Nat.zero_le _, rfl, HO.out, HF3.out, B2⟩
      case round =>
        obtain ⟨j, hj, rfl, ho, hfj, bj⟩ := hrel
        by_cases hlj : j < n
        · have j0 : (0 : Int) ≤ (j : Int) := by omega
          have j1 : (j : Int) < (n : Int) := by omega
          obtain ⟨ad, s, v, rfl, hs, hv, HE⟩ := (h.below bj).elem hlj
          have hok := HN.out.ok j (by rw [HL.out]; exact hlj)
          rw [HE.out] at hok
          obtain ⟨p0, p1, p2⟩ := hok
          obtain ⟨a, rfl⟩ := natOf (x := s) p0
          obtain ⟨b, rfl⟩ := natOf (x := v) (by omega)
          have hab : a < b := by omega
          have hbm : b < m := by omega
          have B1 := belowNew wr (.cells #[.int .i64 (a : Int), .int .i64 (b : Int)] 93)
          obtain ⟨t, ht⟩ : ∃ t, swaps ((a : Int), (b : Int)) (aft l (bitsN m k) j) = t := ⟨_, rfl⟩
          have HC := Lib.hid (exchange_any a b r m c2 w.heap.size (aft l (bitsN m k) j) t _ hab hbm hm1 (ho.below B1) ht)
          have HA : Hid (exch ((a : Int), (b : Int)) (aft l (bitsN m k) j) = aft l (bitsN m k) (j + 1)) := by show _ = _; rw [aft, HE.out]
          have HD : Hid (didAt l (bitsN m k) j = t) := by show _ = _; rw [didAt, HE.out, ht]
          have HF4 := Lib.hid (hfj.below B1)
          have BK := Lib.hid (bj.trans (B1.mono bj.size))
          clear ht p0 p1 p2 ho bj B1 hfj
          cases t with
          | true =>
            go_wp2_with fail
            refine (HC.out).mono ?_
            rintro e w4 ⟨rfl, ho4, g4⟩
            rw [HA.out] at ho4
            have hf4 := HF4.out.grown g4 (by simpa using ur)
            obtain ⟨z0, hz0⟩ : ∃ z0, w4.cell? ⟨u, j, none⟩ = some (.bool z0) := ⟨_, hf4.cell hlj⟩
            have fz := hf4.free j
            have HF5 := Lib.hid hf4
            have B4 := BK.out.grown g4 BK.out.size (fun k hk => by cases hk; exact r0)
            clear hf4
            go_wp2_with fail
            go_roundw
            case rel =>
              refine ⟨j + 1, by omega, by go_num, ho4.kept (grown_setCell (World.grownBy.refl _ (some u)) j _) (fun ad e => by cases e; simpa using ru), (HF5.out.put j true).congr (fun x _ => ?_), B4.setCell u0 _⟩
              rw [← usedN_put HD.out]
              by_cases e : x = j
              · rw [if_pos e, if_pos e]; simp
              · rw [if_neg e, if_neg e]
            case measure => simp [intOf]; omega
          | false =>
            go_wp2_with fail
            refine (HC.out).mono ?_
            rintro e w4 ⟨rfl, ho4, g4⟩
            rw [HA.out] at ho4
            have hf4 := HF4.out.grown g4 (by simpa using ur)
            have B4 := BK.out.grown g4 BK.out.size (fun k hk => by cases hk; exact r0)
            have HF5 := Lib.hid hf4
            clear hf4
            go_wp2_with fail
            go_roundw
            case rel => exact ⟨j + 1, by omega, by go_num, ho4, HF5.out.congr (fun x _ => by rw [didTo_skip HD.out]), B4⟩
            case measure => simp [intOf]; omega
        · obtain rfl : j = n := by omega
          have hfn : RowB wr u u j (usedN m l (k + 1)) := hfj.congr (fun x hx => usedN_next hx)
          clear hfj ho
          go_wp2_with fail
          go_roundw
          case rel => exact ⟨k + 1, by omega, by go_num, hfn, bj⟩
          case measure => simp [intOf]; omega
    · obtain rfl : k = N := by omega
      have hfn : RowB wr u u n (needsN m l) := HFk.out.congr (fun x _ => by rw [needsN, HP.out])
      have HFN := Lib.hid hfn
      clear hfn HFk
      go_wp2_with fail
      go_ret
      exact ⟨u, rfl, HFN.out.mono u0, bk⟩

set_option maxHeartbeats 2000000 in
theorem impl_NeedlessSteps (x : Int) (A : Option Addr) (n c : Nat) (l : List St) (rs : List Int) (rb : Bool) (w : World) (_hx : I64 x) (h : HasT w A n l) (hn : n ≤ 1048576) (_ : NilOk A n c) (hM : m_NeedlessSteps x l = (rs, rb)) :
    Calls Try.prog 51 #[.int .i64 x, .slice A n c] w fun e w' => ∃ R k c', e = .returned (.tuple #[.slice R k c', .bool rb]) ∧ Own w' w.heap.size R k c' rs ∧ k ≤ 16777216 ∧ Below w.heap.size w w' := by
  have HL := Lib.hid h.1
  obtain ⟨y, hy⟩ : ∃ y, netB x l = y := ⟨_, rfl⟩
  have HG := Lib.hid (isNetwork_any x A n c l y w h hn hy)
  have HM := Lib.hid hM
  have HY := Lib.hid hy
  clear hM hy
  cases y with
  | false =>
    have hR : [] = rs ∧ false = rb := by
      have := HM.out
      rw [m_NeedlessSteps, if_neg (by rw [HY.out]; decide)] at this
      injection this with a b
      exact ⟨a, b⟩
    obtain ⟨rfl, rfl⟩ := hR
    go_enter Try.func51, Try.ntmps51
    go_wp2_with fail
    refine (HG.out).mono ?_
    rintro e w1 ⟨rfl, b1⟩
    go_wp2_with fail
    go_ret2
    exact ⟨none, 0, 0, rfl, Own.nil_ _ _, by omega, b1⟩
  | true =>
    obtain ⟨m, rfl, hNet⟩ := net_yes HY.out
    have hn60 : n ≤ 60 := by rw [← h.1]; exact hNet.short
    have hR : outsN (needsN m l) n = rs ∧ true = rb := by
      have := HM.out
      rw [m_NeedlessSteps, if_pos HY.out, Int.toNat_natCast, HL.out] at this
      injection this with a b
      exact ⟨a, b⟩
    obtain ⟨rfl, rfl⟩ := hR
    have HS := Lib.hid (fun w' (hb : Below w.heap.size w w') => neededSteps_any A n c l m w' (h.below hb) hNet)
    clear h hNet
    go_enter Try.func51, Try.ntmps51
    go_wp2_with fail
    refine (HG.out).mono ?_
    rintro e w1 ⟨rfl, b1⟩
    go_wp2_with fail
    refine (HS.out w1 b1).mono ?_
    rintro e w2 ⟨u, rfl, hf, b2⟩
    have B2 := b1.trans (b2.mono b1.size)
    have sz := B2.size
    have HFN := Lib.hid hf
    clear hf HS b2
    go_wp2_with fail
    go_loopw [6, 17] (fun vv jv wq => ∃ (j q c' : Nat) (R : Option Addr), j ≤ n ∧ jv = .int .i64 j ∧ vv = .slice R q c' ∧ Own wq w2.heap.size R q c' (outsN (needsN m l) j) ∧ Below w2.heap.size w2 wq) (fun _ jv _ => n - (intOf jv).toNat)
    case atStart => exact ⟨0, 0, 0, none, Nat.zero_le _, rfl, rfl, Own.nil_ _ _, Below.refl _ _⟩
    case round =>
      obtain ⟨j, q, c', R, hj, rfl, rfl, ho, bj⟩ := hrel
      by_cases hlj : j < n
      · have j0 : (0 : Int) ≤ (j : Int) := by omega
        have j1 : (j : Int) < (n : Int) := by omega
        obtain ⟨b, hb⟩ : ∃ b, needsN m l j = b := ⟨_, rfl⟩
        have cU := (HFN.out.below bj).cell hlj
        rw [hb] at cU
        have hq : q ≤ 60 := by rw [← ho.1]; have := outsN_length (needsN m l) j; omega
        have HB := Lib.hid hb
        have sj := bj.size
        clear hb
        cases b with
        | true =>
          have HX : Hid (outsN (needsN m l) (j + 1) = outsN (needsN m l) j) := by show _ = _; rw [outsN, if_pos HB.out]
          go_wp2_with fail
          go_roundw
          case rel => exact ⟨j + 1, q, c', R, by omega, by go_num, rfl, by rw [HX.out]; exact ho, bj⟩
          case measure => simp [intOf]; omega
        | false =>
          have HX : Hid (outsN (needsN m l) j ++ [(j : Int)] = outsN (needsN m l) (j + 1)) := by show _ = _; rw [outsN, if_neg (by rw [HB.out]; decide)]
          go_wp2_with (at_builtin; refine appendInt _ rfl (.tmp 24) (.tmp 26) rfl (j : Int) w2.heap.size _ q _ rfl rfl ho.2 (by omega) sj ?_; intro v6 w6 o6 b6; obtain ⟨R6, c6, rfl, ho6⟩ := ownOf o6)
          rw [HX.out] at ho6
          go_roundw
          case rel => exact ⟨j + 1, q + 1, c6, R6, by omega, by go_num, rfl, ho6, bj.trans b6⟩
          case measure => simp [intOf]; omega
      · obtain rfl : j = n := by omega
        have hq : q ≤ 60 := by rw [← ho.1]; have := outsN_length (needsN m l) j; omega
        go_wp2_with fail
        go_ret2
        exact ⟨R, q, c', rfl, ho.mono sz, by omega, B2.trans (bj.mono sz)⟩

set_option maxHeartbeats 2000000 in
theorem impl_PruneNetwork (x : Int) (A : Option Addr) (n c : Nat) (l : List St) (rs : List St) (rb : Bool) (w : World) (_hx : I64 x) (h : HasT w A n l) (hn : n ≤ 1048576) (_ : NilOk A n c) (hM : m_PruneNetwork x l = (rs, rb)) :
    Calls Try.prog 53 #[.int .i64 x, .slice A n c] w fun e w' => ∃ R k c', e = .returned (.tuple #[.slice R k c', .bool rb]) ∧ OwnT w' w.heap.size R k c' rs ∧ k ≤ 1048576 ∧ Below w.heap.size w w' := by
  have HL := Lib.hid h.1
  obtain ⟨y, hy⟩ : ∃ y, netB x l = y := ⟨_, rfl⟩
  have HG := Lib.hid (isNetwork_any x A n c l y w h hn hy)
  have HM := Lib.hid hM
  have HY := Lib.hid hy
  clear hM hy
  cases y with
  | false =>
    have hR : [] = rs ∧ false = rb := by
      have := HM.out
      rw [m_PruneNetwork, if_neg (by rw [HY.out]; decide)] at this
      injection this with a b
      exact ⟨a, b⟩
    obtain ⟨rfl, rfl⟩ := hR
    go_enter Try.func53, Try.ntmps53
    go_wp2_with fail
    refine (HG.out).mono ?_
    rintro e w1 ⟨rfl, b1⟩
    go_wp2_with fail
    go_ret2
    exact ⟨none, 0, 0, rfl, OwnT.nil_ _ _, by omega, b1⟩
  | true =>
    obtain ⟨m, rfl, hNet⟩ := net_yes HY.out
    have hn60 : n ≤ 60 := by rw [← h.1]; exact hNet.short
    have hR : keptT (needsN m l) l n = rs ∧ true = rb := by
      have := HM.out
      rw [m_PruneNetwork, if_pos HY.out, Int.toNat_natCast, HL.out] at this
      injection this with a b
      exact ⟨a, b⟩
    obtain ⟨rfl, rfl⟩ := hR
    have HS := Lib.hid (fun w' (hb : Below w.heap.size w w') => neededSteps_any A n c l m w' (h.below hb) hNet)
    clear hNet
    go_enter Try.func53, Try.ntmps53
    go_wp2_with fail
    refine (HG.out).mono ?_
    rintro e w1 ⟨rfl, b1⟩
    go_wp2_with fail
    refine (HS.out w1 b1).mono ?_
    rintro e w2 ⟨g, rfl, hf, b2⟩
    have B2 := b1.trans (b2.mono b1.size)
    have sz := B2.size
    have HFN := Lib.hid hf
    have HH := Lib.hid (h.below B2)
    clear hf HS b2 h
    go_wp2_with fail
    go_loopw [6, 17] (fun vv jv wq => ∃ (j q d : Nat) (R : Option Addr), j ≤ n ∧ jv = .int .i64 j ∧ vv = .slice R q d ∧ OwnT wq w2.heap.size R q d (keptT (needsN m l) l j) ∧ Below w2.heap.size w2 wq) (fun _ jv _ => n - (intOf jv).toNat)
    case atStart => exact ⟨0, 0, 0, none, Nat.zero_le _, rfl, rfl, OwnT.nil_ _ _, Below.refl _ _⟩
    case round =>
      obtain ⟨j, q, d, X, hj, rfl, rfl, ht, bj⟩ := hrel
      by_cases hlj : j < n
      · have j0 : (0 : Int) ≤ (j : Int) := by omega
        have j1 : (j : Int) < (n : Int) := by omega
        obtain ⟨ad, u, v, rfl, hu, hv, HE⟩ := (HH.out.below bj).elem hlj
        obtain ⟨b, hb⟩ : ∃ b, needsN m l j = b := ⟨_, rfl⟩
        have cU := (HFN.out.below bj).cell hlj
        rw [hb] at cU
        have hq : q ≤ 60 := by rw [← ht.1]; have := keptT_length (needsN m l) l j; omega
        have HB := Lib.hid hb
        have HT := Lib.hid ht
        have sj := bj.size
        clear hb ht
        cases b with
        | false =>
          have HX : Hid (keptT (needsN m l) l (j + 1) = keptT (needsN m l) l j) := by show _ = _; rw [keptT, if_neg (by rw [HB.out]; decide)]
          go_wp2_with fail
          go_roundw
          case rel => exact ⟨j + 1, q, d, X, by omega, by go_num, rfl, by rw [HX.out]; exact HT.out, bj⟩
          case measure => simp [intOf]; omega
        | true =>
          have HX : Hid (keptT (needsN m l) l j ++ [(u, v)] = keptT (needsN m l) l (j + 1)) := by show _ = _; rw [keptT, if_pos HB.out, HE.out]
          go_wp2_with (at_builtin; refine appendStep wr rfl (.tmp 23) (.tmp 28) rfl u v w2.heap.size X q d _ rfl (by simp [Act.eval]) HT.out (by omega) sj ?_; intro R6 c6 w6 o6 b6 _)
          rw [HX.out] at o6
          go_roundw
          case rel => exact ⟨j + 1, q + 1, c6, R6, by omega, by go_num, rfl, o6, bj.trans b6⟩
          case measure => simp [intOf]; omega
      · obtain rfl : j = n := by omega
        have hq : q ≤ 60 := by rw [← ht.1]; have := keptT_length (needsN m l) l j; omega
        have HT := Lib.hid ht
        clear ht
        go_wp2_with fail
        go_ret2
        exact ⟨X, q, d, rfl, HT.out.mono sz, by omega, B2.trans (bj.mono sz)⟩

end Go.Proofs.Yteiibneaihdmbaa
