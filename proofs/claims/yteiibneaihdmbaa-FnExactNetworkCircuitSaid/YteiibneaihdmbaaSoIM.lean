/- Several texts in one: SoI11, SoI12. What each says stands at its head. -/
import Derived.Test.YteiibneaihdmbaaSoIN
import Derived.Test.YteiibneaihdmbaaSoI10
import Derived.Test.YteiibneaihdmbaaGdI8
import Derived.Deep.RegionHeld3
import Derived.Test.YteiibneaihdmbaaSoI1
import Derived.Test.YteiibneaihdmbaaCirI11

/- The program's NetworkCircuit: the closure. -/
namespace Go.Proofs.Yteiibneaihdmbaa
open Go Go.RowKit
set_option maxRecDepth 100000


theorem parts_start (m wd N : Nat) (l : List St) (hN : N = m * wd) : ∀ k, k < m → (((rangeL 0 N).drop (k * wd)).take wd) = (ncTo N wd l 0).2 k := fun k hk => by
  have hkN : k * wd + wd ≤ N := by
    have h1 : (k + 1) * wd ≤ m * wd := Nat.mul_le_mul hk (Nat.le_refl _)
    rw [Nat.add_mul, Nat.one_mul, ← hN] at h1
    exact h1
  obtain ⟨r, hr⟩ : ∃ r, N = k * wd + r := ⟨N - k * wd, by omega⟩
  rw [hr, rangeL_drop, rangeL_take _ (by omega)]
  show rangeL (0 + ((k * wd : Nat) : Int)) wd = rangeL ((k * wd : Nat) : Int) wd
  rw [Int.zero_add]

set_option maxRecDepth 100000 in
set_option maxHeartbeats 4000000 in
theorem networkLit_any (q B N m n cl wd bl bw g : Nat) (Al : Option Addr) (l : List St) (w : World) (hM : Mk w 82 q B N 0 none 0 0 []) (hNm : N = m * wd) (hN20 : N ≤ 20) (hN : Net m l) (hl : l.length = n) (w1 : 1 ≤ wd) (w4 : wd ≤ 4) (hst : ∀ W, Below B w W → HasT W Al n l)
    (hA : HasI w (some ⟨g, 0, none⟩) N (rangeL 0 N)) (A2 : Option Addr) (hbl : Blk w bl #[.slice Al n cl] 39) (hbw : Blk w bw #[.int .i64 (wd : Int)] 3) (lb : bl < B) (lw : bw < B) :
    Calls Try.prog 110 #[.pointer (some ⟨q, 0, none⟩), .slice (some ⟨g, 0, none⟩) N N, .slice A2 0 0, .pointer (some ⟨bl, 0, none⟩), .pointer (some ⟨bw, 0, none⟩)] w fun e w' => ∃ (R' : Option Addr) (n' c' : Nat) (O : Option Addr) (d : Nat), e = .returned (.slice O N d) ∧ Own w' w.heap.size O N d (catTo (ncTo N wd l n).2 m) ∧ Mk w' 82 q B N 0 R' n' c' (ncTo N wd l n).1 ∧ Below B w w' := by
  have sB : B ≤ w.heap.size := by have := hM.base; have := hM.lt; omega
  have hm1 := hN.one
  have hm12 := hN.twelve
  have HK : Hid (∀ W', Below B w W' → W'.cell? ⟨bl, 0, none⟩ = some (.slice Al n cl) ∧ W'.cell? ⟨bw, 0, none⟩ = some (.int .i64 (wd : Int))) := fun W' hb => ⟨(hbl.below hb lb).cell (i := 0) rfl, (hbw.below hb lw).cell (i := 0) rfl⟩
  have D : Below B w w.drew := (Below.refl B w).drew
  have Dw : Below w.heap.size w w.drew := (Below.refl _ w).drew
  have HC1 := Lib.hid (chunk_any g N wd w1 w.drew)
  have HN := Lib.hid hN
  have HL := Lib.hid hl
  have HST := Lib.hid hst
  have HM := Lib.hid hM
  have HA := Lib.hid hA
  have HNM := Lib.hid hNm
  clear hbl hbw hN hl hst hM hA hNm
  go_enter Try.func110, Try.ntmps110
  go_wp2_with fail
  first | (go_region_held3 (fun w' => w'.cell? ⟨bl, 0, none⟩ = some (.slice Al n cl) ∧ w'.cell? ⟨bw, 0, none⟩ = some (.int .i64 (wd : Int))) (first | exact HK.out _ D | exact HK.out _ Ba | exact HK.out _ Bb | exact HK.out _ Bc | exact HK.out _ Bd | go_keep) (first
    | (go_at_call 114; refine (HC1.out).mono ?_; rintro e wa ⟨Bs, Bn, rfl, sBs, sBn, cBs, cBn, ba⟩; have Da := Dw.trans ba; have Ba := Da.mono sB)
    | (go_at_call 113; refine (collect_any Bs Bn g N m wd HNM.out w1 (by omega) (by omega) wa sBs sBn cBs cBn).mono ?_; rintro e wb ⟨vb, rfl, rowb, bb⟩; have Db := Da.trans (bb.mono Da.size); have Bb := Db.mono sB; obtain ⟨Ab, cb, rfl, matb⟩ := parts_mat HNM.out rowb (HA.out.below Db); obtain ⟨gb, rfl⟩ := matb.spot (by omega))
    | (go_at_call 112; refine (gmSort_any q B N 0 m n cl wd wa.heap.size gb cb Al l wb (HM.out.below Db) (by omega) (by omega) HN.out HL.out w1 w4 (by omega) (fun W hb => HST.out W (Bb.trans hb)) (matb.ext (parts_start m wd N l HNM.out))).mono ?_; rintro e wc ⟨Rc, nc, cc, gc, dc, rfl, Mc, matc, bc⟩; have Bc := Bb.trans bc)
    | (go_at_call 111; refine (concatRows_any gc m dc wd wb.heap.size _ wc matc w1 w4 (by omega)).mono ?_; rintro e we ⟨Rd, cd, rfl, od, bd⟩; have Bd := Bc.trans (bd.mono (by have := Bc.size; omega))))) | fail
  go_wp2_with fail
  go_ret
  rw [← HNM.out]
  rw [← HNM.out] at od
  exact ⟨Rc, nc, cc, Rd, cd, rfl, od.mono (by have := Bc.size; omega), Mc.below bd, Bd⟩

end Go.Proofs.Yteiibneaihdmbaa

/- The program's NetworkCircuit. -/
namespace Go.Proofs.Yteiibneaihdmbaa
open Go Go.RowKit
set_option maxRecDepth 100000


theorem eachLen (f : Nat → List Ga → List Ga × Int) (G : List Ga) : ∀ k, (eachTo f G k).2.length = k
  | 0 => rfl
  | k + 1 => by rw [eachTo_succ]; simp [eachLen f G k]
theorem ncTo_len (N wd : Nat) (l : List St) : ∀ k j, ((ncTo N wd l k).2 j).length = wd
  | 0, j => by show (rangeL _ wd).length = wd; simp [rangeL, mapTo]
  | k + 1, j => by
    rw [ncTo, ncStep]
    simp only
    split
    · exact eachLen _ _ _
    · split
      · exact eachLen _ _ _
      · exact ncTo_len N wd l k j
theorem catLen {M : Nat → List Int} {wd : Nat} (h : ∀ j, (M j).length = wd) : ∀ k, (catTo M k).length = k * wd
  | 0 => by simp [catTo]
  | k + 1 => by rw [catTo, List.length_append, catLen h k, h k, Nat.add_mul, Nat.one_mul]
theorem ncC_small {m wd : Nat} {l : List St} (hm : m ≤ 12) (w4 : wd ≤ 4) (hl : l.length ≤ 60) : (ncC m wd l).gs.length ≤ 1048576 ∧ (ncC m wd l).os.length ≤ 1048576 := by
  have h1 := netRows m wd l w4 l.length
  have h2 : (catTo (ncTo (m * wd) wd l l.length).2 m).length = m * wd := catLen (ncTo_len _ _ _ _) m
  have h3 : m * wd ≤ 12 * 4 := Nat.mul_le_mul hm w4
  exact ⟨by show (ncTo (m * wd) wd l l.length).1.length ≤ _; omega, by show (catTo (ncTo (m * wd) wd l l.length).2 m).length ≤ _; omega⟩

set_option maxRecDepth 100000 in
set_option maxHeartbeats 2000000 in
theorem gadgetNetwork_any (N m n cl wd bl bw : Nat) (Al : Option Addr) (l : List St) (w : World) (hNm : N = m * wd) (hN20 : N ≤ 20) (hN : Net m l) (hl : l.length = n) (w1' : 1 ≤ wd) (w4' : wd ≤ 4) (hst : HasT w Al n l) (bl0 : Blk w bl #[.slice Al n cl] 39) (bw0 : Blk w bw #[.int .i64 (wd : Int)] 3) :
    Calls Try.prog 109 #[.int .i64 (N : Int), .int .i64 0, .func (.func 110) #[] #[.pointer (some ⟨bl, 0, none⟩), .pointer (some ⟨bw, 0, none⟩)]] w fun e w' => ∃ u, e = .returned u ∧ OwnC w' w.heap.size u (ncC m wd l) ∧ Below w.heap.size w w' := by
  have llt := bl0.lt
  have wlt := bw0.lt
  have hN1 : 0 < N := by rw [hNm]; exact Nat.mul_pos hN.one w1'
  have HNM := Lib.hid hNm
  have HN := Lib.hid hN
  have HL := Lib.hid hl
  clear hNm hN hl
  have r1 := Blk.new w #[.int .i64 0, .int .i64 0, .slice none 0 0, .slice none 0 0] 29
  have b1 := belowNew w (.cells #[.int .i64 0, .int .i64 0, .slice none 0 0, .slice none 0 0] 29)
  obtain ⟨w1, hw1⟩ : ∃ W, W = w.alloc (.cells #[.int .i64 0, .int .i64 0, .slice none 0 0, .slice none 0 0] 29) := ⟨_, rfl⟩
  have s1 : w1.heap.size = w.heap.size + 1 := by rw [hw1]; simp
  rw [← hw1] at r1 b1
  have bl1 := bl0.below' b1
  have bw1 := bw0.below' b1
  have y3 := Blk.new w1 #[.int .i64 (N : Int), .int .i64 0, .slice none 0 0, .slice none 0 0] 82
  have b3 := belowNew w1 (.cells #[.int .i64 (N : Int), .int .i64 0, .slice none 0 0, .slice none 0 0] 82)
  obtain ⟨w3, hw3⟩ : ∃ W, W = w1.alloc (.cells #[.int .i64 (N : Int), .int .i64 0, .slice none 0 0, .slice none 0 0] 82) := ⟨_, rfl⟩
  rw [← hw3] at y3 b3
  have bl3 := bl1.below' b3
  have bw3 := bw1.below' b3
  have r3 := r1.below' b3
  have B3 := b1.trans (b3.mono b1.size)
  have M3 : Mk w3 82 w1.heap.size (w.heap.size + 1) N 0 none 0 0 [] := ⟨y3, OwnG.nil_ _ _, by omega, (fun ad e => by cases e), by decide, by decide⟩
  have HS1 := Lib.hid s1
  have l1 : w.heap.size < w1.heap.size := by omega
  clear s1 r1 b1 b3 y3
  go_enter Try.func109, Try.ntmps109
  go_upto_region 1 with fail
  rw [← hw1]
  clear hw1
  go_upto_region 2 with fail
  rw [← hw3]
  clear hw3
  go_wp2_with fail
  refine call_eq (args1 := #[.int .i64 0, .int .i64 ((N : Nat) : Int)]) (w1 := w3) (by simp) rfl (Calls.mono (wiresFrom_any 0 N w3 (by omega) (by omega) (by omega)) ?_)
  rintro e w4 ⟨A, rfl, o4, b4⟩
  have r4 := r3.below' b4
  have B4 := B3.trans (b4.mono B3.size)
  have M4 := M3.below b4
  have bl4 := bl3.below' b4
  have bw4 := bw3.below' b4
  have ha4 := o4
  clear r3 B3 M3 o4
  go_wp2_with fail
  refine call_eq (args1 := #[.int .i64 (N : Int), .int .i64 ((0 : Nat) : Int)]) (w1 := w4) (by simp) rfl (Calls.mono (wiresFrom_any (N : Int) 0 w4 (by omega) (by omega) (by omega)) ?_)
  rintro e w5 ⟨A2, rfl, o5, b5⟩
  have r5 := r4.below' b5
  have B5 := B4.trans (b5.mono B4.size)
  have M5 := M4.below b5
  have bl5 := bl4.below' b5
  have bw5 := bw4.below' b5
  have ha5 := ha4.below b5
  have hb5 := o5
  clear r4 B4 M4 b4 b5 o5 ha4
  obtain ⟨g, rfl⟩ := ha5.spot (by omega)
  go_wp2_with fail
  have hstR : ∀ W, Below (w.heap.size + 1) w5 W → HasT W Al n l := fun W hb => hst.below (B5.trans (hb.mono (Nat.le_succ _)))
  have hl5 : w.heap.size + 1 ≤ w5.heap.size := by have := M5.lt; have := M5.base; omega
  refine (networkLit_any w1.heap.size (w.heap.size + 1) N m n cl wd bl bw g Al l w5 M5 HNM.out hN20 HN.out HL.out w1' w4' hstR ha5.hasI A2 bl5 bw5 (by omega) (by omega)).mono ?_
  rintro e w6 ⟨R6, n6, c6, O6, d6, rfl, o6, M6, t6⟩
  have r6 := r5.below t6 (Nat.lt_succ_self _)
  have B6 : Below w.heap.size w w6 := B5.trans (t6.mono (Nat.le_succ _))
  have hq : w1.heap.size ≠ w.heap.size := by omega
  have l6 : w.heap.size + 1 ≤ w5.heap.size := by have := M5.lt; omega
  obtain ⟨y7, o7, B7⟩ := M6.done (o6.mono l6) (Nat.le_succ _) B6
  have f7 := M6.blk.free 3
  have x7 := M6.blk.cell (i := 3) rfl
  have r7 := r6.other hq 3 (.slice O6 N d6)
  obtain ⟨w7, hw7⟩ : ∃ W, W = w6.setCell ⟨w1.heap.size, 3, none⟩ (.slice O6 N d6) := ⟨_, rfl⟩
  rw [← hw7] at y7 o7 B7 r7
  rw [show ((0 : Nat) : Int) = 0 from rfl] at y7 o7
  clear r5 B5 M5 ha5 hb5 t6 r6 M6 o6 B6 bl0 bw0 bl1 bw1 bl3 bw3 bl4 bw4 bl5 bw5 hstR
  go_upto_region 3 with fail
  rw [← hw7]
  clear hw7 f7 x7
  obtain ⟨k0, k1, k2, k3⟩ := y7.four
  obtain ⟨z0, z1, z2, z3⟩ := r7.four
  have f0 := r7.free 0
  have f1 := r7.free 1
  have f2 := r7.free 2
  have f3 := r7.free 3
  obtain ⟨y8, o8, B8⟩ := fourSet (a := .int .i64 (N : Int)) (b := .int .i64 0) (c := .slice R6 n6 c6) (d := .slice O6 N d6) o7 r7 (Nat.lt_succ_self _) B7 (Nat.le_refl _)
  obtain ⟨e0, e1, e2, e3⟩ := y8.four
  have HK : Hid ((⟨(N : Int), 0, (ncTo N wd l n).1, catTo (ncTo N wd l n).2 m⟩ : Ci) = ncC m wd l) := by show _ = _; rw [ncC, ← HNM.out, HL.out]
  rw [HK.out] at o8
  have HY := Lib.hid (And.intro o8 B8)
  clear y7 o7 B7 r7 y8 o8 B8
  go_wp2_with fail
  refine bodyPost_ret (v := .agg #[.int .i64 (N : Int), .int .i64 0, .slice R6 n6 c6, .slice O6 N d6]) (by simp [results, Try.results109, go_sem, e0, e1, e2, e3]) rfl ⟨_, rfl, ?_, HY.out.2⟩
  exact HY.out.1.mono (Nat.le_succ _)

set_option maxRecDepth 100000 in
set_option maxHeartbeats 4000000 in
theorem impl_NetworkCircuit (x : Int) (Al : Option Addr) (n cl : Nat) (l : List St) (y : Int) (RC : Ci) (rb : Bool) (w : World) (_hx : I64 x) (h : HasT w Al n l) (hn : n ≤ 1048576) (_ : NilOk Al n cl) (_hy : I64 y) (hm : m_NetworkCircuit x l y = (RC, rb)) :
    Calls Try.prog 55 #[.int .i64 x, .slice Al n cl, .int .i64 y] w fun e w' => ∃ u, e = .returned (.tuple #[u, .bool rb]) ∧ OwnC w' w.heap.size u RC ∧ RC.gs.length ≤ 1048576 ∧ RC.os.length ≤ 1048576 ∧ Below w.heap.size w w' := by
  have hl : l.length = n := h.1
  have p1 := Blk.new w #[.slice Al n cl] 39
  have b1 := belowNew w (.cells #[.slice Al n cl] 39)
  obtain ⟨w0, hw0⟩ : ∃ W, W = w.alloc (.cells #[.slice Al n cl] 39) := ⟨_, rfl⟩
  have s0 : w0.heap.size = w.heap.size + 1 := by rw [hw0]; simp
  rw [← hw0] at p1 b1
  have o1 := Blk.newAt (k := w.heap.size + 1) w0 #[.int .i64 y] 3 s0.symm
  have b2 := belowNew w0 (.cells #[.int .i64 y] 3)
  have p2 := p1.below' b2
  have B2 := b1.trans (b2.mono b1.size)
  obtain ⟨wb, hwb⟩ : ∃ W, W = w0.alloc (.cells #[.int .i64 y] 3) := ⟨_, rfl⟩
  have sb : wb.heap.size = w.heap.size + 1 + 1 := by rw [hwb]; simp [s0]
  rw [← hwb] at o1 p2 B2
  have r1 := Blk.newAt (k := w.heap.size + 1 + 1) wb #[.int .i64 0, .int .i64 0, .slice none 0 0, .slice none 0 0] 29 sb.symm
  have b3 := belowNew wb (.cells #[.int .i64 0, .int .i64 0, .slice none 0 0, .slice none 0 0] 29)
  have p3 := p2.below' b3
  have o3 := o1.below' b3
  have B3 := B2.trans (b3.mono B2.size)
  obtain ⟨w1, hw1⟩ : ∃ W, W = wb.alloc (.cells #[.int .i64 0, .int .i64 0, .slice none 0 0, .slice none 0 0] 29) := ⟨_, rfl⟩
  have s1 : w1.heap.size = w.heap.size + 1 + 1 + 1 := by rw [hw1]; simp [sb]
  rw [← hw1] at r1 p3 o3 B3
  have hH1 := h.below B3
  have clb := p3.cell (i := 0) rfl
  have cwb := o3.cell (i := 0) rfl
  have l1 : w.heap.size + 1 + 1 < w1.heap.size := by omega
  have hfail : ∀ wf, Below w1.heap.size w1 wf → Hid (((wf.cell? ⟨w.heap.size + 1 + 1, 0, none⟩ = some (.int .i64 0) ∧ wf.cell? ⟨w.heap.size + 1 + 1, 1, none⟩ = some (.int .i64 0) ∧ wf.cell? ⟨w.heap.size + 1 + 1, 2, none⟩ = some (.slice none 0 0) ∧ wf.cell? ⟨w.heap.size + 1 + 1, 3, none⟩ = some (.slice none 0 0)) ∧ wf.frozen? ⟨w.heap.size + 1 + 1, 0, none⟩ = false ∧ wf.frozen? ⟨w.heap.size + 1 + 1, 1, none⟩ = false ∧ wf.frozen? ⟨w.heap.size + 1 + 1, 2, none⟩ = false ∧ wf.frozen? ⟨w.heap.size + 1 + 1, 3, none⟩ = false) ∧
      wf.cell? ⟨w.heap.size, 0, none⟩ = some (.slice Al n cl) ∧ wf.cell? ⟨w.heap.size + 1, 0, none⟩ = some (.int .i64 y) ∧
      (∀ a b c d : Value, Blk ((((wf.setCell ⟨w.heap.size + 1 + 1, 0, none⟩ a).setCell ⟨w.heap.size + 1 + 1, 1, none⟩ b).setCell ⟨w.heap.size + 1 + 1, 2, none⟩ c).setCell ⟨w.heap.size + 1 + 1, 3, none⟩ d) (w.heap.size + 1 + 1) #[a, b, c, d] 29 ∧ Below w.heap.size w ((((wf.setCell ⟨w.heap.size + 1 + 1, 0, none⟩ a).setCell ⟨w.heap.size + 1 + 1, 1, none⟩ b).setCell ⟨w.heap.size + 1 + 1, 2, none⟩ c).setCell ⟨w.heap.size + 1 + 1, 3, none⟩ d))) := fun wf hb => by
    have rf := r1.below' hb
    refine ⟨⟨rf.four, rf.free 0, rf.free 1, rf.free 2, rf.free 3⟩, (p3.below' hb).cell (i := 0) rfl, (o3.below' hb).cell (i := 0) rfl, fun a b c d => ?_⟩
    obtain ⟨p, _, q⟩ := fourSet (a := a) (b := b) (c := c) (d := d) (zeroOwnZ wf (w.heap.size + 1 + 1 + 1)) rf (Nat.lt_succ_self _) (B3.trans (hb.mono B3.size)) (by omega)
    exact ⟨p, q⟩
  have HF := Lib.hid hfail
  clear hfail b1 b2 b3 p1 p2 o1 B2 s0 sb
  rcases netC_cases x l y with ⟨hno, hv⟩ | ⟨m, rfl, hN, hyes, hv⟩
  · rw [hv] at hm
    obtain ⟨rfl, rfl⟩ := Prod.mk.inj hm
    have HG := Lib.hid (isNetwork_any x Al n cl l false w1 hH1 hn hno)
    clear hm hv s1 hno r1 h hH1
    go_enter Try.func55, Try.ntmps55
    go_upto_region 1 with fail
    rw [← hw0, ← hwb, ← hw1]
    clear hw0 hwb hw1
    go_wp2_with fail
    refine (HG.out).mono ?_
    rintro e w6 ⟨rfl, b6⟩
    obtain ⟨⟨⟨z0, z1, z2, z3⟩, f0, f1, f2, f3⟩, cl0, cw0, hs⟩ := (HF.out w6 b6).out
    obtain ⟨y7, B7⟩ := hs (.int .i64 0) (.int .i64 0) (.slice none 0 0) (.slice none 0 0)
    obtain ⟨e0, e1, e2, e3⟩ := y7.four
    have HB := Lib.hid B7
    clear hs y7 B7 b6 HF HG
    go_wp2_with fail
    refine bodyPost_ret (v := .tuple #[.agg #[.int .i64 0, .int .i64 0, .slice none 0 0, .slice none 0 0], .bool false]) (by simp [results, Try.results55, go_sem, e0, e1, e2, e3]) rfl ⟨_, rfl, zeroOwnZ _ _, by simp [zeroC], by simp [zeroC], HB.out⟩
  · have HG := Lib.hid (isNetwork_any (m : Int) Al n cl l true w1 hH1 hn hyes)
    rcases hv with ⟨hno, hv⟩ | ⟨wd, rfl, w1', w4, hv⟩
    · rw [hv] at hm
      obtain ⟨rfl, rfl⟩ := Prod.mk.inj hm
      have hy2 : y < 1 ∨ ¬ y < 1 ∧ 4 < y := by simp at hno; omega
      clear hm hv s1 hno r1 h hH1 hyes
      rcases hy2 with hy2 | ⟨hy2, hy3⟩
      all_goals
        go_enter Try.func55, Try.ntmps55
        go_upto_region 1 with fail
        rw [← hw0, ← hwb, ← hw1]
        clear hw0 hwb hw1
        go_wp2_with fail
        refine (HG.out).mono ?_
        rintro e w6 ⟨rfl, b6⟩
        obtain ⟨⟨⟨z0, z1, z2, z3⟩, f0, f1, f2, f3⟩, cl0, cw0, hs⟩ := (HF.out w6 b6).out
        obtain ⟨y7, B7⟩ := hs (.int .i64 0) (.int .i64 0) (.slice none 0 0) (.slice none 0 0)
        obtain ⟨e0, e1, e2, e3⟩ := y7.four
        have HB := Lib.hid B7
        clear hs y7 B7 b6 HF HG
        go_wp2_with fail
        refine bodyPost_ret (v := .tuple #[.agg #[.int .i64 0, .int .i64 0, .slice none 0 0, .slice none 0 0], .bool false]) (by simp [results, Try.results55, go_sem, e0, e1, e2, e3]) rfl ⟨_, rfl, zeroOwnZ _ _, by simp [zeroC], by simp [zeroC], HB.out⟩
    · have hwr : IntKind.i64.wrap ((m : Int) * (wd : Int)) = (m : Int) * (wd : Int) := by
        have hm12 := hN.twelve
        have : m * wd ≤ 12 * 4 := Nat.mul_le_mul hm12 w4
        have hc : ((m * wd : Nat) : Int) = (m : Int) * (wd : Int) := Int.natCast_mul _ _
        exact wrapIn (by omega) (by omega)
      have hy1 : ¬ (wd : Int) < 1 := by omega
      have hy4 : ¬ 4 < (wd : Int) := by omega
      rcases hv with ⟨hbig, hv⟩ | ⟨hle, hv⟩
      · rw [hv] at hm
        obtain ⟨rfl, rfl⟩ := Prod.mk.inj hm
        have hb : (20 : Int) < (m : Int) * (wd : Int) := by
          have hc : ((m * wd : Nat) : Int) = (m : Int) * (wd : Int) := Int.natCast_mul _ _
          omega
        clear hm hv s1 hbig r1 h hH1 hyes
        go_enter Try.func55, Try.ntmps55
        go_upto_region 1 with fail
        rw [← hw0, ← hwb, ← hw1]
        clear hw0 hwb hw1
        go_wp2_with fail
        refine (HG.out).mono ?_
        rintro e w6 ⟨rfl, b6⟩
        obtain ⟨⟨⟨z0, z1, z2, z3⟩, f0, f1, f2, f3⟩, cl0, cw0, hs⟩ := (HF.out w6 b6).out
        obtain ⟨y7, B7⟩ := hs (.int .i64 0) (.int .i64 0) (.slice none 0 0) (.slice none 0 0)
        obtain ⟨e0, e1, e2, e3⟩ := y7.four
        have HB := Lib.hid B7
        clear hs y7 B7 b6 HF HG
        go_wp2_with fail
        refine bodyPost_ret (v := .tuple #[.agg #[.int .i64 0, .int .i64 0, .slice none 0 0, .slice none 0 0], .bool false]) (by simp [results, Try.results55, go_sem, e0, e1, e2, e3]) rfl ⟨_, rfl, zeroOwnZ _ _, by simp [zeroC], by simp [zeroC], HB.out⟩
      · rw [hv] at hm
        have hc : ((m * wd : Nat) : Int) = (m : Int) * (wd : Int) := Int.natCast_mul _ _
        have hb : ¬ (20 : Int) < (m : Int) * (wd : Int) := by omega
        have hsz := ncC_small (l := l) hN.twelve w4 hN.short
        have HSz : Hid (RC.gs.length ≤ 1048576 ∧ RC.os.length ≤ 1048576) := by
          have e := hm
          rw [ifG] at e
          split at e
          · obtain ⟨rfl, _⟩ := Prod.mk.inj e; exact hsz
          · obtain ⟨rfl, _⟩ := Prod.mk.inj e; exact ⟨by simp, by simp⟩
        have HV : Hid (∀ (u : Value) (W : World) (B : Nat), OwnC W B u (ncC m wd l) → Calls Try.prog 82 #[u] W fun e w' => ∃ u2, e = .returned (.tuple #[u2, .bool rb]) ∧ OwnC w' B u2 RC ∧ Below W.heap.size W w') := fun u W B ho => by
          have := validCircuit_any u (ncC m wd l) B W ho hsz
          rw [hm] at this
          exact this
        have HP := Lib.hid p3
        have HO := Lib.hid o3
        have HH := Lib.hid hH1
        have HB3 := Lib.hid B3
        clear hm hv s1 r1 h hH1 hyes p3 o3 hsz B3
        go_enter Try.func55, Try.ntmps55
        go_upto_region 1 with fail
        rw [← hw0, ← hwb, ← hw1]
        clear hw0 hwb hw1
        go_wp2_with fail
        refine (HG.out).mono ?_
        rintro e w6 ⟨rfl, b6⟩
        obtain ⟨_, cl0, cw0, _⟩ := (HF.out w6 b6).out
        have HC := Lib.hid (gadgetNetwork_any (m * wd) m n cl wd w.heap.size (w.heap.size + 1) Al l w6 rfl hle hN hl w1' w4 (HH.out.below b6) (HP.out.below' b6) (HO.out.below' b6))
        have B6 := Lib.hid b6
        clear b6 HG
        go_wp2_with fail
        refine call_eq (args1 := #[.int .i64 ((m * wd : Nat) : Int), .int .i64 0, .func (.func 110) #[] #[.pointer (some ⟨w.heap.size, 0, none⟩), .pointer (some ⟨w.heap.size + 1, 0, none⟩)]]) (w1 := w6) (by simp [hc]) rfl (Calls.mono HC.out ?_)
        rintro e w7 ⟨u, rfl, o7, b7⟩
        have B7 := Lib.hid (B6.out.trans (b7.mono B6.out.size))
        have s16 := B6.out.size
        have hV := HV.out u w7 w6.heap.size o7
        have HVV := Lib.hid hV
        clear hV o7 b7 HC
        go_wp2_with fail
        refine (HVV.out).mono ?_
        rintro e w8 ⟨u2, rfl, o8, b8⟩
        obtain ⟨Gx, nx, cx, Ox, mx, dx, rfl, _, _⟩ := id o8
        obtain ⟨⟨⟨z0, z1, z2, z3⟩, f0, f1, f2, f3⟩, cl1, cw1, hs⟩ := (HF.out w8 (B7.out.trans (b8.mono B7.out.size))).out
        obtain ⟨y7, B9⟩ := hs (.int .i64 RC.in0) (.int .i64 RC.in1) (.slice Gx nx cx) (.slice Ox mx dx)
        obtain ⟨e0, e1, e2, e3⟩ := y7.four
        have g10 := grown_setCell (grown_setCell (grown_setCell (grown_setCell (World.grownBy.refl w8 (some (w.heap.size + 1 + 1))) 0 (.int .i64 RC.in0)) 1 (.int .i64 RC.in1)) 2 (.slice Gx nx cx)) 3 (.slice Ox mx dx)
        have HZ := Lib.hid (And.intro (o8.kept g10 (by omega)) B9)
        clear hs y7 B9 b8 HVV o8 g10 cl0 cw0
        go_wp2_with fail
        refine bodyPost_ret (v := .tuple #[.agg #[.int .i64 RC.in0, .int .i64 RC.in1, .slice Gx nx cx, .slice Ox mx dx], .bool rb]) (by simp [results, Try.results55, go_sem, e0, e1, e2, e3]) rfl ⟨_, rfl, HZ.out.1.mono (by omega), HSz.out.1, HSz.out.2, HZ.out.2⟩

end Go.Proofs.Yteiibneaihdmbaa
