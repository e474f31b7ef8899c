/- Several texts in one: SoI8, SoI9. What each says stands at its head. -/
import Derived.Test.YteiibneaihdmbaaSoGN
import Derived.Test.YteiibneaihdmbaaGdI7
import Derived.Deep.DeepCutAuto
import Derived.Deep.RegionLaw
import Derived.Test.YteiibneaihdmbaaCirIA

/- The program's circuit of a network: rows of wires copied, the walk over the steps. -/
namespace Go.Proofs.Yteiibneaihdmbaa
open Go Go.RowKit
set_option maxRecDepth 100000


theorem addG (g j : Nat) : (⟨g, 0, none⟩ : Addr).add j = ⟨g, j, none⟩ := by
  cases j <;> simp [Addr.add]
set_option maxHeartbeats 1000000 in
theorem cloneRows_any (g m c wd S : Nat) (M : Nat → List Int) (w : World) (h : MatS w S (some ⟨g, 0, none⟩) m c wd M) (hm0 : 0 < m) (hm : m ≤ 1000) :
    Calls Try.prog 145 #[.slice (some ⟨g, 0, none⟩) m c] w fun e w' => ∃ g' c', e = .returned (.slice (some ⟨g', 0, none⟩) m c') ∧ MatS w' w.heap.size (some ⟨g', 0, none⟩) m c' wd M ∧ Below w.heap.size w w' := by
  have hB1 := belowNew w (.cells #[] 23)
  have own0 : (w.alloc (.cells #[] 23)).ownsRow w.heap.size 23 1 (.slice (some ⟨w.heap.size, 0, none⟩) 0 0) 0 [] := World.ownsRow_lit w #[] 0 (Nat.le_refl _) (Nat.zero_le _) rfl
  have hne : ∀ w : World, Sem.run Try.prog (binOp BinOp.eql 53 (.slice (some ⟨g, 0, none⟩) m c) (.slice none 0 0)) w = .ok (.bool false) w := fun _ => rfl
  have h2 := h.below hB1
  obtain ⟨vs, hr, hrows⟩ := h2
  have hvl : vs.length = m := by simpa using hr.1
  have hap : ∀ k, k < m → ∀ (R : Option Addr) (zs : List Int), HasI (w.alloc (.cells #[] 23)) R wd zs → (∃ ws, HasI w R wd ws) → ∀ ad : Addr, 0 < wd → R = some ad → some ad.block ≠ some w.heap.size := fun k _ R zs _ ⟨ws, h3⟩ ad h0 e e2 => by
    injection e2 with e2
    obtain ⟨cs, mk, hx⟩ := h3.2 ad h0 e
    have := (Array.getElem?_eq_some_iff.1 hx).1
    omega
  have hap2 : ∀ k, k < m → ∃ R cR, vs[k]? = some (.slice R wd cR) ∧ HasI (w.alloc (.cells #[] 23)) R wd (M k) ∧ ∀ ad : Addr, 0 < wd → R = some ad → some ad.block ≠ some w.heap.size := fun k hk => by
    obtain ⟨R, cR, h1, h3⟩ := hrows k hk
    obtain ⟨R', cR', e1, e2⟩ := h.elem hk
    have e3 := (hr.cellAt k (by omega)).trans h1
    have e4 : (w.alloc (.cells #[] 23)).cell? ⟨g, k, none⟩ = some (.slice R' wd cR') := cellKept hB1 (by show g < _; exact h.lt.2) e1
    rw [e4] at e3
    injection e3 with e3
    injection e3 with e3
    subst e3
    exact ⟨R', cR, h1, h3, hap k hk R' _ h3 ⟨_, e2⟩⟩
  obtain ⟨i0, hi, hz0, hz1, hz2⟩ := info_parts infoRow
  have hcell : ∀ j u, vs[j]? = some u → (w.alloc (.cells #[] 23)).cell? ((⟨g, 0, none⟩ : Addr).add j) = some u := fun j u hj => by
    have hjm : j < m := by rw [← hvl]; exact (List.getElem?_eq_some_iff.1 hj).1
    have := (hr.cellAt j (by omega)).trans hj
    rw [addG]
    exact this
  have hone : ∀ u ∈ vs, u.oneCell' = true := fun u hu => by
    obtain ⟨j, hj, e⟩ := List.getElem_of_mem hu
    obtain ⟨R, cR, h1, _⟩ := hrows j (by omega)
    rw [List.getElem?_eq_getElem hj] at h1
    injection h1 with h1
    rw [← e, h1]
    rfl
  go_enter Try.func145, Try.ntmps145
  go_wp2_with (at_builtin; refine wpList_append_own _ rfl (.tmp 5) (.tmp 6) _ rfl w.heap.size 23 i0 (.slice none 0 0) 1 24 Try.underlying53 hi hz0 hz1 hz2 rfl (by decide) (.slice (some ⟨w.heap.size, 0, none⟩) 0 0) 0 [] rfl own0 ⟨g, 0, none⟩ m c vs rfl (by simp [hvl]) hcell hone (by simp only [maxLen]; omega) (by omega) (by simp) ?_; intro v1 w1 own1 g1 _)
  rw [Nat.zero_add, List.nil_append] at own1
  obtain ⟨R1, c1, rfl⟩ := sliceOf own1
  obtain ⟨g1', cap, hv, _⟩ := own1.form hm0
  injection hv with hA
  subst hA
  go_ret
  exact ⟨g1', c1, rfl, ⟨vs, own1, fun k hk => by
    obtain ⟨R, cR, h1, h3, h4⟩ := hap2 k hk
    exact ⟨R, cR, h1, h3.grown g1 h4⟩⟩, hB1.grown g1 hB1.size (fun j hj => by have : w.heap.size = j := Option.some.inj hj; omega)⟩

set_option maxRecDepth 100000 in
set_option maxHeartbeats 4000000 in
theorem gmSort_any (q B N0 N1 m n cl wd S g c : Nat) (Al : Option Addr) (l : List St) (w : World) (hM : Mk w 82 q B N0 N1 none 0 0 []) (h0 : N0 ≤ 1000) (h1 : N1 ≤ 1000) (hN : Net m l) (hl : l.length = n) (w1 : 1 ≤ wd) (w4 : wd ≤ 4) (hm0 : 0 < m)
    (hst : ∀ W, Below B w W → HasT W Al n l) (hmat : MatS w S (some ⟨g, 0, none⟩) m c wd (ncTo (N0 + N1) wd l 0).2) :
    Calls Try.prog 112 #[.pointer (some ⟨q, 0, none⟩), .slice Al n cl, .slice (some ⟨g, 0, none⟩) m c] w fun e w' => ∃ (R' : Option Addr) (n' c' g' d' : Nat), e = .returned (.slice (some ⟨g', 0, none⟩) m d') ∧ Mk w' 82 q B N0 N1 R' n' c' (ncTo (N0 + N1) wd l n).1 ∧ MatS w' w.heap.size (some ⟨g', 0, none⟩) m d' wd (ncTo (N0 + N1) wd l n).2 ∧ Below B w w' := by
  have sBw : B ≤ w.heap.size := by have := hM.base; have := hM.lt; omega
  have hn60 : n ≤ 60 := by rw [← hl]; exact hN.short
  have hm12 := hN.twelve
  have HN := Lib.hid hN
  have HL := Lib.hid hl
  have HST := Lib.hid hst
  clear hN hl hst
  obtain ⟨N, hNN⟩ : ∃ N, N0 + N1 = N := ⟨_, rfl⟩
  have HNN := Lib.hid hNN
  rw [hNN] at hmat ⊢
  clear hNN
  go_enter Try.func112, Try.ntmps112
  go_wp2_with fail
  refine (cloneRows_any g m c wd S (ncTo N wd l 0).2 w hmat hm0 (by omega)).mono ?_
  rintro e w0 ⟨g0, d0, rfl, mat0, b0⟩
  have M0 := hM.below b0
  have B0' := Lib.hid (b0.mono sBw)
  clear hmat b0 hM
  go_wp2_with fail
  go_loopw [17] (fun iv wr => ∃ (k : Nat) (R1 : Option Addr) (n1 c1 : Nat), k ≤ n ∧ iv = .int .i64 k ∧ Mk wr 82 q B N0 N1 R1 n1 c1 (ncTo N wd l k).1 ∧ MatS wr w.heap.size (some ⟨g0, 0, none⟩) m d0 wd (ncTo N wd l k).2 ∧ Hid (Below B w wr)) (fun iv _ => n - (intOf iv).toNat)
  case atStart => exact ⟨0, none, 0, 0, Nat.zero_le _, rfl, M0, mat0, B0'.out |> Lib.hid⟩
  case round =>
    obtain ⟨k, R1, n1, c1, hk, rfl, M1, mat1, B1⟩ := hrel
    by_cases hlt : k < n
    · obtain ⟨ad, u, v, rfl, hu, hv, HE⟩ := (HST.out wr B1.out).elem hlt
      have q0 : (0 : Int) ≤ (k : Int) := by omega
      have q1 : (k : Int) < (n : Int) := by omega
      have hok := HN.out.ok k (by rw [HL.out]; exact hlt)
      rw [HE.out] at hok
      obtain ⟨o0, o1, o2⟩ := hok
      obtain ⟨a, rfl⟩ := natOf (x := u) o0
      obtain ⟨b, rfl⟩ := natOf (x := v) (by omega)
      have hab : a < b := by omega
      have hbm : b < m := by omega
      have ea : lo l k = a := by rw [lo, HE.out]; exact Int.toNat_natCast a
      have eb : hi l k = b := by rw [hi, HE.out]; exact Int.toNat_natCast b
      have hn1 : n1 ≤ 3000 := by
        have h1 := ncTo_le N wd l k
        rw [M1.len] at h1
        have h2 : 12 * wd * k ≤ 12 * 4 * 60 := Nat.mul_le_mul (by omega) (by omega)
        omega
      obtain ⟨G, hG⟩ : ∃ G, (ncTo N wd l k).1 = G := ⟨_, rfl⟩
      obtain ⟨M, hMM⟩ : ∃ M, (ncTo N wd l k).2 = M := ⟨_, rfl⟩
      rw [hG] at M1
      rw [hMM] at mat1
      have HNC : Hid (ncTo N wd l (k + 1) = ncStep N wd a b G M) := by show _ = _; rw [ncTo, ea, eb, hG, hMM]
      clear hG hMM ea eb
      obtain ⟨bg, hbg⟩ : ∃ b, wr.heap.size = b := ⟨_, rfl⟩
      have bA := belowNew wr (.cells #[.int .i64 (a : Int), .int .i64 (b : Int)] 93)
      have yg := Blk.newAt (k := bg) wr #[.int .i64 (a : Int), .int .i64 (b : Int)] 93 hbg.symm
      have M2 := M1.below bA
      have mat2 := mat1.below bA
      have sB : B ≤ wr.heap.size := by have := M1.base; have := M1.lt; omega
      have B2 := Lib.hid (B1.out.trans (bA.mono sB))
      obtain ⟨wg, hwg⟩ : ∃ W, W = wr.alloc (.cells #[.int .i64 (a : Int), .int .i64 (b : Int)] 93) := ⟨_, rfl⟩
      rw [← hwg] at bA yg M2 mat2 B2
      have sBg : B ≤ wg.heap.size := Nat.le_trans sB bA.size
      obtain ⟨Ra, cRa, hca, HRa⟩ := mat2.elem (k := a) (by omega)
      obtain ⟨Rb, cRb, hcb, HRb⟩ := mat2.elem (k := b) (by omega)
      have g0c : wg.cell? ⟨bg, 0, none⟩ = some (.int .i64 (a : Int)) := yg.cell (i := 0) rfl
      have g1c : wg.cell? ⟨bg, 1, none⟩ = some (.int .i64 (b : Int)) := yg.cell (i := 1) rfl
      have A0 : (0 : Int) ≤ (a : Int) := by omega
      have A1 : (a : Int) < (m : Int) := by omega
      have B0 : (0 : Int) ≤ (b : Int) := by omega
      have Bm : (b : Int) < (m : Int) := by omega
      have YG := Lib.hid yg
      have M2H := Lib.hid M2
      have MAT2 := Lib.hid mat2
      have HRaH := Lib.hid HRa
      have HRbH := Lib.hid HRb
      clear yg M2 mat2 M1 mat1 B1 HRa HRb
      go_upto_region 5 with fail
      rw [← hwg]
      clear hwg hbg hu hv bA
      go_quiet (fail)
      obtain ⟨wd1, hwd1⟩ : ∃ W, W = wg.drewN nq := ⟨_, rfl⟩
      have bd : Below wg.heap.size wg wd1 := by rw [hwd1]; exact below_drewN (Below.refl _ _) nq
      rw [← hwd1]
      have y3 := YG.out.below' bd
      have M3 := M2H.out.below bd
      have mat3 := MAT2.out.below bd
      have ra3 := HRaH.out.below bd
      have rb3 := HRbH.out.below bd
      have B3 := Lib.hid (B2.out.trans (bd.mono sBg))
      clear hwd1 bd g0c g1c hca hcb YG M2H MAT2 HRaH HRbH B2
      go_wp2_with fail
      refine (gmLess_any q B N0 N1 R1 n1 c1 G Ra wd cRa (M a) Rb wd cRb (M b) wd1 M3 h0 h1 (by omega) ra3 rb3 (Nat.le_refl _) (by omega) (by omega)).mono ?_
      rintro e w5 ⟨R5, n5, c5, go, cO5, rfl, O5o, M5, t5⟩
      have y5 := y3.mk t5 M3 (by decide) (by decide)
      have mat5 := mat3.mk t5 M3 (by decide)
      have ra5 := ra3.mk t5 M3
      have rb5 := rb3.mk t5 M3
      have B5 := B3.out.trans (t5.below M3 (Nat.le_refl _))
      rw [HNN.out] at O5o M5
      have M3l := M3.len
      clear y3 M3 mat3 ra3 rb3 t5 B3
      obtain ⟨ao, s, ea, hs, HS⟩ := O5o.has.elem (k := wd) (by omega)
      injection ea with ea
      subst ea
      have hs : w5.cell? ⟨go, wd, none⟩ = some (.int .i64 s) := by rw [addG] at hs; exact hs
      have w0' : (0 : Int) ≤ (wd : Int) := by omega
      have w1' : (wd : Int) < ((wd + 1 : Nat) : Int) := by omega
      obtain ⟨G5, hG5⟩ : ∃ G5, (carTo (subStep N) G (M a) (M b) wd).1 = G5 := ⟨_, rfl⟩
      rw [hG5] at M5
      have hn5 : n5 ≤ 3100 := by
        have h1 := carSub_le N (M a) (M b) G wd
        rw [hG5, M5.len, M3l] at h1
        omega
      have HG5 := Lib.hid hG5
      clear hG5 O5o
      have HY5 := Lib.hid y5
      have HM5 := Lib.hid M5
      have HT5 := Lib.hid mat5
      have HA5 := Lib.hid ra5
      have HB5 := Lib.hid rb5
      have hFm5 : Hid (∀ (R' : Option Addr) (W' : World), MkTo q w5 (blockOf R5) W' (blockOf R') → W'.cell? ⟨bg, 0, none⟩ = some (.int .i64 (a : Int)) ∧ W'.cell? ⟨bg, 1, none⟩ = some (.int .i64 (b : Int)) ∧ W'.frozen? ⟨g0, a, none⟩ = false ∧ ∃ vv, W'.cell? ⟨g0, a, none⟩ = some vv) := fun R' W' hT => by
        have y := HY5.out.mk hT HM5.out (by decide) (by decide)
        have mt := HT5.out.mk hT HM5.out (by decide)
        obtain ⟨R, cR, h1, _⟩ := mt.elem (k := a) (by omega)
        exact ⟨y.cell (i := 0) rfl, y.cell (i := 1) rfl, mt.free a, _, h1⟩
      have HS5 := Lib.hid HS
      clear y5 M5 mat5 ra5 rb5 HS
      go_upto_region 7 with fail
      have T0 := (MkTo.refl q w5 (blockOf R5)).drew
      obtain ⟨f0, f1, f2, f3, f4⟩ := hFm5.out R5 w5.drew T0
      have HC := Lib.hid (gmChoose_any s Ra wd cRa (M a) Rb wd cRb (M b) q B N0 N1 R5 n5 c5 G5 w5.drew HM5.out.drew h0 h1 (by omega) HA5.out HB5.out (Nat.le_refl _) (by omega))
      clear hs
      go_region_law (first | (go_simp; go_at_call 147; refine Calls.mono HC.out ?_; rintro e w6 ⟨R6, n6, c6, O6, G6, os6, rfl, HS6, Oo6, M6, t6⟩; obtain ⟨u0, u1, u2, u3, u4⟩ := hFm5.out R6 w6 (T0.trans t6); dsimp only))
      all_goals
        have TT := T0.trans t6
        obtain ⟨mat7, M7, y7, ra7, rb7, B7⟩ := MatS.store (cR := wd) (HT5.out.mk TT HM5.out (by decide)) (k := a) (by omega) Oo6.hasI M6 (by decide) (HY5.out.mk TT HM5.out (by decide) (by decide)) (by decide) (HA5.out.mk TT HM5.out) (HB5.out.mk TT HM5.out) sBw (B5.trans (TT.below HM5.out (Nat.le_refl _)))
        rw [HNN.out] at HS6
        have hn6 : n6 ≤ 3200 := by
          have h1 := eachPick_le N s (M a) (M b) G5 wd
          rw [HS6.out] at h1
          have h2 : G5.length = n5 := HM5.out.len
          rw [M6.len] at h1
          omega
        obtain ⟨w7, hw7⟩ : ∃ W, W = w6.setCell ⟨g0, a, none⟩ (.slice O6 wd wd) := ⟨_, rfl⟩
        rw [← hw7] at mat7 M7 y7 ra7 rb7 B7 ⊢
        clear hw7 u0 u1 u2 u3 u4 f0 f1 f2 f3 f4 HC TT T0 t6 M6 Oo6 HT5 HY5 HM5 HA5 HB5 hFm5 B5
        have HY7 := Lib.hid y7
        have HM7 := Lib.hid M7
        have HT7 := Lib.hid mat7
        have HA7 := Lib.hid ra7
        have HB7 := Lib.hid rb7
        have hFm7 : Hid (∀ (R' : Option Addr) (W' : World), MkTo q w7 (blockOf R6) W' (blockOf R') → W'.cell? ⟨bg, 0, none⟩ = some (.int .i64 (a : Int)) ∧ W'.cell? ⟨bg, 1, none⟩ = some (.int .i64 (b : Int)) ∧ W'.frozen? ⟨g0, b, none⟩ = false ∧ ∃ vv, W'.cell? ⟨g0, b, none⟩ = some vv) := fun R' W' hT => by
          have y := HY7.out.mk hT HM7.out (by decide) (by decide)
          have mt := HT7.out.mk hT HM7.out (by decide)
          obtain ⟨R, cR, h1, _⟩ := mt.elem (k := b) (by omega)
          exact ⟨y.cell (i := 0) rfl, y.cell (i := 1) rfl, mt.free b, _, h1⟩
        clear y7 M7 mat7 ra7 rb7
        go_upto_region 8 with fail
        have T0 := (MkTo.refl q w7 (blockOf R6)).drew
        obtain ⟨f0, f1, f2, f3, f4⟩ := hFm7.out R6 w7.drew T0
        have HC := Lib.hid (gmChoose_any s Rb wd cRb (M b) Ra wd cRa (M a) q B N0 N1 R6 n6 c6 G6 w7.drew HM7.out.drew h0 h1 (by omega) HB7.out HA7.out (Nat.le_refl _) (by omega))
        go_region_law (first | (go_simp; go_at_call 147; refine Calls.mono HC.out ?_; rintro e w8 ⟨R8, n8, c8, O8, G8, os8, rfl, HS8, Oo8, M8, t8⟩; obtain ⟨u0, u1, u2, u3, u4⟩ := hFm7.out R8 w8 (T0.trans t8); dsimp only))
        all_goals
          have TT := T0.trans t8
          obtain ⟨mat9, M9, y9, ra9, rb9, B9⟩ := MatS.store (cR := wd) (HT7.out.mk TT HM7.out (by decide)) (k := b) (by omega) Oo8.hasI M8 (by decide) (HY7.out.mk TT HM7.out (by decide) (by decide)) (by decide) (HA7.out.mk TT HM7.out) (HB7.out.mk TT HM7.out) sBw (B7.trans (TT.below HM7.out (Nat.le_refl _)))
          rw [HNN.out] at HS8
          have HX : Hid (ncTo N wd l (k + 1) = (G8, fun j => if j = b then os8 else if j = a then os6 else M j)) := by
            show _ = _
            rw [HNC.out, ncStep]
            try simp only
            rw [HG5.out, ← HS5.out, HS6.out, HS8.out]
          obtain ⟨w9, hw9⟩ : ∃ W, W = w8.setCell ⟨g0, b, none⟩ (.slice O8 wd wd) := ⟨_, rfl⟩
          rw [← hw9] at mat9 M9 B9 ⊢
          clear hw9 u0 u1 u2 u3 u4 f0 f1 f2 f3 f4 HC TT T0 t8 M8 Oo8 y9 ra9 rb9
          go_wp2_with fail
          go_roundw
          case rel => exact ⟨k + 1, R8, n8, c8, by omega, by go_num, by rw [HX.out]; exact M9, by rw [HX.out]; exact mat9, Lib.hid B9⟩
          case measure => simp [intOf]; omega
    · obtain rfl : k = n := by omega
      go_wp2_with fail
      go_ret
      exact ⟨R1, n1, c1, g0, d0, rfl, M1, mat1, B1.out⟩

end Go.Proofs.Yteiibneaihdmbaa

/- The program's circuit of a network: rows joined. -/
namespace Go.Proofs.Yteiibneaihdmbaa
open Go Go.RowKit
set_option maxRecDepth 100000


set_option maxRecDepth 100000 in
set_option maxHeartbeats 2000000 in
theorem concatRows_any (g m c wd S : Nat) (M : Nat → List Int) (w : World) (h : MatS w S (some ⟨g, 0, none⟩) m c wd M) (w1 : 1 ≤ wd) (w4 : wd ≤ 4) (hm : m ≤ 12) :
    Calls Try.prog 111 #[.slice (some ⟨g, 0, none⟩) m c] w fun e w' => ∃ R c', e = .returned (.slice R (m * wd) c') ∧ Own w' w.heap.size R (m * wd) c' (catTo M m) ∧ Below w.heap.size w w' := by
  have HH := Lib.hid h
  clear h
  obtain ⟨pm, hpm⟩ : ∃ pm, m * wd = pm := ⟨_, rfl⟩
  have HPM := Lib.hid hpm
  rw [hpm]
  clear hpm
  go_enter Try.func111, Try.ntmps111
  go_wp2_with fail
  go_loop [3, 11] (fun s i => ∃ k p : Nat, k ≤ m ∧ i = .int .i64 k ∧ s = .int .i64 (p : Int) ∧ p ≤ 4 * k ∧ Hid (k * wd = p)) (fun _ i => m - (intOf i).toNat)
  case atStart => exact ⟨0, 0, by omega, rfl, rfl, by omega, Lib.hid (Nat.zero_mul _)⟩
  case round =>
    obtain ⟨k, p, hk, rfl, rfl, hp, HP⟩ := hrel
    by_cases hlt : k < m
    · obtain ⟨R, cR, hc, hR⟩ := HH.out.elem hlt
      have q0 : (0 : Int) ≤ (k : Int) := by omega
      have q1 : (k : Int) < (m : Int) := by omega
      have hwr : IntKind.i64.wrap ((p : Int) + (wd : Int)) = (p : Int) + (wd : Int) := wrapIn (by omega) (by omega)
      have hnn : ¬ ((p : Int) + (wd : Int) < 0) := by omega
      have HP2 : Hid ((k + 1) * wd = p + wd) := by show _ = _; rw [Nat.add_mul, Nat.one_mul, HP.out]
      clear hR
      go_wp2_with fail
      go_round
      case rel => exact ⟨k + 1, p + wd, by omega, by go_num, by go_num, by omega, HP2⟩
      case measure => simp [intOf]; omega
    · obtain rfl : k = m := by omega
      obtain rfl : p = pm := HP.out.symm.trans HPM.out
      go_wp2_with fail
      refine (growInts_any p w (by omega)).mono ?_
      rintro e w2 ⟨v1, rfl, o1, b1⟩
      go_wp2_with fail
      go_loopw [6, 27] (fun v i wr => ∃ j r : Nat, j ≤ k ∧ i = .int .i64 j ∧ wr.ownsRow w.heap.size 3 1 v r (vals (catTo M j)) ∧ r ≤ 4 * j ∧ Hid (j * wd = r) ∧ Hid ((catTo M j).length = r) ∧ Below w.heap.size w wr) (fun _ i _ => k - (intOf i).toNat)
      case atStart => exact ⟨0, 0, by omega, rfl, o1, by omega, Lib.hid (Nat.zero_mul _), rfl, b1⟩
      case round =>
        obtain ⟨j, r, hj, rfl, ho, hr, HR, HLn, bk⟩ := hrel
        by_cases hlt2 : j < k
        · obtain ⟨R, cR, hc, hR⟩ := (HH.out.below bk).elem hlt2
          have q0 : (0 : Int) ≤ (j : Int) := by omega
          have q1 : (j : Int) < (k : Int) := by omega
          have sz := bk.size
          have hnil : NilOk R wd cR := fun e => by
            obtain ⟨ad, e2, _⟩ := hR.1.2 (by omega)
            rw [e] at e2
            cases e2
          have HR2 : Hid ((j + 1) * wd = r + wd) := by show _ = _; rw [Nat.add_mul, Nat.one_mul, HR.out]
          have HL2 : Hid ((catTo M (j + 1)).length = r + wd) := by show _ = _; rw [catTo, List.length_append, HLn.out, hR.1.1]
          go_wp2_with (at_builtin; refine appendMany _ rfl (.tmp 31) (.tmp 32) rfl w.heap.size _ R r wd cR (catTo M j) (M j) rfl ho rfl hnil hR.1 (by omega) (by omega) sz ?_; intro v2 w2 own2 b2)
          go_roundw
          case rel => exact ⟨j + 1, r + wd, by omega, by go_num, own2, by omega, HR2, HL2, bk.trans b2⟩
          case measure => simp [intOf]; omega
        · obtain rfl : j = k := by omega
          obtain rfl : r = p := HR.out.symm.trans HP.out
          obtain ⟨R, c', rfl, ho'⟩ := ownOf ho
          go_wp2_with fail
          go_ret
          exact ⟨R, c', rfl, ho', bk⟩

end Go.Proofs.Yteiibneaihdmbaa
