/- Several texts in one: SoM4, SoG8, SoG9. What each says stands at its head. -/
import Derived.Test.YteiibneaihdmbaaSoM3
import Derived.Test.YteiibneaihdmbaaGdW1
import Derived.Test.YteiibneaihdmbaaGdM1
import Derived.Test.YteiibneaihdmbaaGdG2
import Derived.Test.YteiibneaihdmbaaGdG5
import Derived.Deep.DeepCutAuto
import Derived.Deep.RegionLaw
import Derived.Test.YteiibneaihdmbaaGdG3
import Derived.Test.YteiibneaihdmbaaCirG12

/- Circuits of networks as mathematics; rows of wires in memory while gates are made. -/
namespace Go.Proofs.Yteiibneaihdmbaa
open Go Go.RowKit
set_option maxRecDepth 100000


/-- One step on the lines a and b: the gates, the lines. -/
def ncStep (N wd a b : Nat) (G : List Ga) (M : Nat → List Int) : List Ga × (Nat → List Int) :=
  let s := (carOuts (subStep N) G (M a) (M b) wd).getD wd 0
  let p := eachTo (pickStep N s (M a) (M b)) (carTo (subStep N) G (M a) (M b) wd).1 wd
  let q := eachTo (pickStep N s (M b) (M a)) p.1 wd
  (q.1, fun j => if j = b then q.2 else if j = a then p.2 else M j)
def ncTo (N wd : Nat) (l : List St) : Nat → List Ga × (Nat → List Int)
  | 0 => ([], fun j => rangeL ((j * wd : Nat) : Int) wd)
  | k + 1 => ncStep N wd (lo l k) (hi l k) (ncTo N wd l k).1 (ncTo N wd l k).2
theorem eachPick_le (N : Nat) (s : Int) (us vs : List Int) (G : List Ga) : ∀ k, (eachTo (pickStep N s us vs) G k).1.length ≤ G.length + 3 * k
  | 0 => Nat.le_refl _
  | k + 1 => by
    have := eachPick_le N s us vs G k
    have h2 := pickStep_le N s us vs k (eachTo (pickStep N s us vs) G k).1
    rw [eachTo_succ]
    simp only
    omega
theorem carSub_le (N : Nat) (us vs : List Int) (G : List Ga) : ∀ k, (carTo (subStep N) G us vs k).1.length ≤ G.length + 6 * k
  | 0 => Nat.le_refl _
  | k + 1 => by
    have := carSub_le N us vs G k
    rw [carTo_succ]
    have h2 := (subSteps N k (us.getD k 0) (vs.getD k 0) (carTo (subStep N) G us vs k).2.2 (carTo (subStep N) G us vs k).1).1
    simp only
    omega
theorem ncTo_le (N wd : Nat) (l : List St) : ∀ k, (ncTo N wd l k).1.length ≤ 12 * wd * k
  | 0 => by simp [ncTo]
  | k + 1 => by
    have h0 := ncTo_le N wd l k
    rw [ncTo, ncStep]
    simp only
    have h1 := carSub_le N ((ncTo N wd l k).2 (lo l k)) ((ncTo N wd l k).2 (hi l k)) (ncTo N wd l k).1 wd
    generalize (carOuts (subStep N) (ncTo N wd l k).1 ((ncTo N wd l k).2 (lo l k)) ((ncTo N wd l k).2 (hi l k)) wd).getD wd 0 = s
    generalize (carTo (subStep N) (ncTo N wd l k).1 ((ncTo N wd l k).2 (lo l k)) ((ncTo N wd l k).2 (hi l k)) wd).1 = G1 at h1 ⊢
    have h2 := eachPick_le N s ((ncTo N wd l k).2 (lo l k)) ((ncTo N wd l k).2 (hi l k)) G1 wd
    generalize eachTo (pickStep N s ((ncTo N wd l k).2 (lo l k)) ((ncTo N wd l k).2 (hi l k))) G1 wd = p at h2 ⊢
    have h3 := eachPick_le N s ((ncTo N wd l k).2 (hi l k)) ((ncTo N wd l k).2 (lo l k)) p.1 wd
    rw [Nat.mul_add, Nat.mul_one]
    have e : 12 * wd = 6 * wd + 3 * wd + 3 * wd := by omega
    omega

/-- m rows of wd wires each; the outer row is the call's own. -/
def MatS (w : World) (S : Nat) (A : Option Addr) (m c wd : Nat) (M : Nat → List Int) : Prop :=
  ∃ vs : List Value, w.ownsRow S 23 1 (.slice A m c) m vs ∧ ∀ k, k < m → ∃ R cR, vs[k]? = some (.slice R wd cR) ∧ HasI w R wd (M k)
section
variable {w w' : World} {S m c wd k q B N0 N1 n cG : Nat} {A R : Option Addr} {M M' : Nat → List Int} {t : TypeId} {G : List Ga} {r' : Option Nat}
theorem MatS.spot (h : MatS w S A m c wd M) (hm : 0 < m) : ∃ g, A = some ⟨g, 0, none⟩ := by
  obtain ⟨vs, ho, _⟩ := h
  obtain ⟨g, cap, hv, _⟩ := ho.form hm
  injection hv with hA
  exact ⟨g, hA⟩
theorem MatS.ext (h : MatS w S A m c wd M) (e : ∀ k, k < m → M k = M' k) : MatS w S A m c wd M' := by
  obtain ⟨vs, ho, hr⟩ := h
  exact ⟨vs, ho, fun k hk => by rw [← e k hk]; exact hr k hk⟩
theorem MatS.elem {g : Nat} (h : MatS w S (some ⟨g, 0, none⟩) m c wd M) (hk : k < m) : ∃ R cR, w.cell? ⟨g, k, none⟩ = some (.slice R wd cR) ∧ HasI w R wd (M k) := by
  obtain ⟨vs, ho, hr⟩ := h
  obtain ⟨R, cR, h1, h2⟩ := hr k hk
  exact ⟨R, cR, (ho.cellAt k (by omega)).trans h1, h2⟩
theorem MatS.free {g : Nat} (h : MatS w S (some ⟨g, 0, none⟩) m c wd M) (k : Nat) : w.frozen? ⟨g, k, none⟩ = false := by
  obtain ⟨vs, ho, _⟩ := h
  exact ho.frozenAt k
theorem MatS.lt {g : Nat} (h : MatS w S (some ⟨g, 0, none⟩) m c wd M) : S ≤ g ∧ g < w.heap.size := by
  obtain ⟨vs, ho, _⟩ := h
  exact ho.lt g rfl
theorem MatS.below (h : MatS w S A m c wd M) (hb : Below w.heap.size w w') : MatS w' S A m c wd M := by
  obtain ⟨vs, ho, hr⟩ := h
  refine ⟨vs, keptRow ho (grownOf hb none) (fun _ _ => by simp), fun k hk => ?_⟩
  obtain ⟨R, cR, h1, h2⟩ := hr k hk
  exact ⟨R, cR, h1, h2.below hb⟩
/-- While a maker makes gates the rows stay. -/
theorem MatS.mk (h : MatS w S A m c wd M) (hT : MkTo q w (blockOf R) w' r') (hM : Mk w t q B N0 N1 R n cG G) (ht : t ≠ 23) : MatS w' S A m c wd M := by
  obtain ⟨vs, ho, hr⟩ := h
  refine ⟨vs, ?_, fun k hk => ?_⟩
  · rcases ho with ⟨h1, h2⟩
    refine ⟨h1, ?_⟩
    rcases h2 with h2 | ⟨g, cap, cur, e, hb, hg, h5, h6, h7, h8⟩
    · exact .inl h2
    · refine .inr ⟨g, cap, cur, e, hb, ?_, h5, h6, h7, h8⟩
      rw [hT.typed hM hg (fun e => ht e.symm) (by decide)]
      exact hg
  · obtain ⟨R', cR, h1, h2⟩ := hr k hk
    exact ⟨R', cR, h1, h2.mk hT hM⟩
/-- A row of integers does not lie in the outer row's block. -/
theorem hasIApart {g mm cc : Nat} {vs : List Value} {R : Option Addr} {p : Nat} {zs : List Int} (ho : w.ownsRow S 23 1 (.slice (some ⟨g, 0, none⟩) mm cc) mm vs) (h : HasI w R p zs) : ∀ ad : Addr, 0 < p → R = some ad → some ad.block ≠ some g := by
  intro ad h0 e e2
  obtain ⟨cs, mk, hx⟩ := h.2 ad h0 e
  rcases ho.2 with ⟨hv, _⟩ | ⟨g', cap, cur, hv, _, hg, _⟩
  · cases hv
  · injection hv with e1
    injection e1 with e1
    have e' : g = g' := by injection e1
    subst e'
    injection e2 with e2
    rw [e2] at hx
    rw [hg] at hx
    injection hx with hx
    injection hx with _ h2
    exact absurd h2 (by decide)
theorem MatS.put {g cR : Nat} {R : Option Addr} {zs : List Int} (h : MatS w S (some ⟨g, 0, none⟩) m c wd M) (hk : k < m) (hR : HasI w R wd zs) :
    MatS (w.setCell ⟨g, k, none⟩ (.slice R wd cR)) S (some ⟨g, 0, none⟩) m c wd (fun j => if j = k then zs else M j) := by
  obtain ⟨vs, ho, hr⟩ := h
  have hg : w.grownBy (w.setCell ⟨g, k, none⟩ (.slice R wd cR)) (some g) := grown_setCell (World.grownBy.refl _ _) _ _
  have hl : vs.length = m := by simpa using ho.1
  refine ⟨_, (ho.stored k _).1, fun j hj => ?_⟩
  by_cases e : j = k
  · subst e
    refine ⟨R, cR, by rw [List.getElem?_set_self (by omega)], ?_⟩
    show HasI _ R wd (if j = j then zs else M j)
    rw [if_pos rfl]
    exact hR.grown hg (hasIApart ho hR)
  · obtain ⟨R', c', h1, h2⟩ := hr j hj
    refine ⟨R', c', by rw [List.getElem?_set_ne (by omega)]; exact h1, ?_⟩
    show HasI _ R' wd (if j = k then zs else M j)
    rw [if_neg e]
    exact h2.grown hg (hasIApart ho h2)
theorem MatS.typed {g : Nat} (h : MatS w S (some ⟨g, 0, none⟩) m c wd M) : ∃ cs mk, w.heap[g]? = some (.cells cs 23 mk) := by
  obtain ⟨vs, ho, _⟩ := h
  rcases ho.2 with ⟨hv, _⟩ | ⟨g', cap, cur, hv, _, hg, _⟩
  · cases hv
  · injection hv with e1
    injection e1 with e1
    have e' : g = g' := by injection e1
    subst e'
    exact ⟨_, _, hg⟩
theorem MatS.notMk {g : Nat} (h : MatS w S (some ⟨g, 0, none⟩) m c wd M) (hM : Mk w t q B N0 N1 R n cG G) (ht : t ≠ 23) : some q ≠ some g := by
  intro e
  injection e with e
  subst e
  obtain ⟨cs, mk, hx⟩ := h.typed
  have := hM.blk
  unfold Blk at this
  rw [hx] at this
  injection this with hx2
  injection hx2 with _ h2
  exact ht h2.symm
theorem MatS.notRow {g : Nat} (h : MatS w S (some ⟨g, 0, none⟩) m c wd M) (hM : Mk w t q B N0 N1 R n cG G) : ∀ ad, R = some ad → some ad.block ≠ some g := by
  intro ad e e2
  injection e2 with e2
  obtain ⟨xs, mm, hx⟩ := hM.typed ad e
  rw [e2] at hx
  obtain ⟨cs, mk, hy⟩ := h.typed
  rw [hx] at hy
  injection hy with hy
  injection hy with _ h2
  exact absurd h2 (by decide)
theorem MatS.notBlk {g bg : Nat} {cs : Array Value} {e : TypeId} (h : MatS w S (some ⟨g, 0, none⟩) m c wd M) (hb : Blk w bg cs e) (he : e ≠ 23) : some bg ≠ some g := by
  intro e1
  injection e1 with e1
  subst e1
  obtain ⟨cs2, mk, hx⟩ := h.typed
  unfold Blk at hb
  rw [hx] at hb
  injection hb with hx2
  injection hx2 with _ h2
  exact he h2.symm
theorem MatS.notI {g p : Nat} {zs : List Int} {R : Option Addr} (h : MatS w S (some ⟨g, 0, none⟩) m c wd M) (hI : HasI w R p zs) : ∀ ad : Addr, 0 < p → R = some ad → some ad.block ≠ some g := by
  obtain ⟨vs, ho, _⟩ := h
  exact hasIApart ho hI
/-- A row is stored while a maker stands: all that stays. -/
theorem MatS.store {g bg cR p1 p2 : Nat} {zs us vs : List Int} {R R1 R2 RG : Option Addr} {cs : Array Value} {e : TypeId} (h : MatS w S (some ⟨g, 0, none⟩) m c wd M) (hk : k < m) (hR : HasI w R wd zs) (hM : Mk w t q B N0 N1 RG n cG G) (ht : t ≠ 23) (hb : Blk w bg cs e) (he : e ≠ 23)
    (h1 : HasI w R1 p1 us) (h2 : HasI w R2 p2 vs) (hS : B ≤ S) {w0 : World} (hB : Below B w0 w) :
    MatS (w.setCell ⟨g, k, none⟩ (.slice R wd cR)) S (some ⟨g, 0, none⟩) m c wd (fun j => if j = k then zs else M j) ∧ Mk (w.setCell ⟨g, k, none⟩ (.slice R wd cR)) t q B N0 N1 RG n cG G ∧ Blk (w.setCell ⟨g, k, none⟩ (.slice R wd cR)) bg cs e ∧ HasI (w.setCell ⟨g, k, none⟩ (.slice R wd cR)) R1 p1 us ∧ HasI (w.setCell ⟨g, k, none⟩ (.slice R wd cR)) R2 p2 vs ∧ Below B w0 (w.setCell ⟨g, k, none⟩ (.slice R wd cR)) := by
  have hg : w.grownBy (w.setCell ⟨g, k, none⟩ (.slice R wd cR)) (some g) := grown_setCell (World.grownBy.refl _ _) _ _
  exact ⟨h.put hk hR, hM.kept hg (h.notMk hM ht) (h.notRow hM), hb.grown hg (h.notBlk hb he), h1.grown hg (h.notI h1), h2.grown hg (h.notI h2), hB.grown hg (by have := hM.base; have := hM.lt; omega) (fun j hj => by injection hj with hj; have := h.lt; omega)⟩
end

end Go.Proofs.Yteiibneaihdmbaa

/- The model's circuit of a network: the walk over the steps. -/
namespace Go.Proofs.Yteiibneaihdmbaa
open Go Go.RowKit
set_option maxRecDepth 100000


set_option maxRecDepth 100000 in
set_option maxHeartbeats 4000000 in
theorem soCircuit_any (q B N0 N1 m n cl wd S g c : Nat) (Al : Option Addr) (l : List St) (w : World) (hM : Mk w 118 q B N0 N1 none 0 0 []) (h0 : N0 ≤ 1000) (h1 : N1 ≤ 1000) (hN : Net m l) (hl : l.length = n) (w1 : 1 ≤ wd) (w4 : wd ≤ 4) (hBS : B ≤ S)
    (hst : ∀ W, Below B w W → HasT W Al n l) (hmat : MatS w S (some ⟨g, 0, none⟩) m c wd (ncTo (N0 + N1) wd l 0).2) :
    Calls Try.prog 107 #[.pointer (some ⟨q, 0, none⟩), .slice Al n cl, .slice (some ⟨g, 0, none⟩) m c] w fun e w' => ∃ (R' : Option Addr) (n' c' : Nat), e = .returned (.slice (some ⟨g, 0, none⟩) m c) ∧ Mk w' 118 q B N0 N1 R' n' c' (ncTo (N0 + N1) wd l n).1 ∧ MatS w' S (some ⟨g, 0, none⟩) m c wd (ncTo (N0 + N1) wd l n).2 ∧ Below B w w' := by
  have hn60 : n ≤ 60 := by rw [← hl]; exact hN.short
  have hm12 := hN.twelve
  have HN := Lib.hid hN
  have HL := Lib.hid hl
  have HST := Lib.hid hst
  clear hN hl hst
  obtain ⟨N, hNN⟩ : ∃ N, N0 + N1 = N := ⟨_, rfl⟩
  have HNN := Lib.hid hNN
  rw [hNN] at hmat ⊢
  clear hNN
  go_enter Try.func107, Try.ntmps107
  go_wp2_with fail
  go_loopw [14] (fun iv wr => ∃ (k : Nat) (R1 : Option Addr) (n1 c1 : Nat), k ≤ n ∧ iv = .int .i64 k ∧ Mk wr 118 q B N0 N1 R1 n1 c1 (ncTo N wd l k).1 ∧ MatS wr S (some ⟨g, 0, none⟩) m c wd (ncTo N wd l k).2 ∧ Hid (Below B w wr)) (fun iv _ => n - (intOf iv).toNat)
  case atStart => exact ⟨0, none, 0, 0, Nat.zero_le _, rfl, hM, hmat, Lib.hid (Below.refl _ _)⟩
  case round =>
    obtain ⟨k, R1, n1, c1, hk, rfl, M1, mat1, B1⟩ := hrel
    by_cases hlt : k < n
    · obtain ⟨ad, u, v, rfl, hu, hv, HE⟩ := (HST.out wr B1.out).elem hlt
      have q0 : (0 : Int) ≤ (k : Int) := by omega
      have q1 : (k : Int) < (n : Int) := by omega
      have hok := HN.out.ok k (by rw [HL.out]; exact hlt)
      rw [HE.out] at hok
      obtain ⟨o0, o1, o2⟩ := hok
      obtain ⟨a, rfl⟩ := natOf (x := u) o0
      obtain ⟨b, rfl⟩ := natOf (x := v) (by omega)
      have hab : a < b := by omega
      have hbm : b < m := by omega
      have ea : lo l k = a := by rw [lo, HE.out]; exact Int.toNat_natCast a
      have eb : hi l k = b := by rw [hi, HE.out]; exact Int.toNat_natCast b
      have hn1 : n1 ≤ 3000 := by
        have h1 := ncTo_le N wd l k
        rw [M1.len] at h1
        have h2 : 12 * wd * k ≤ 12 * 4 * 60 := Nat.mul_le_mul (by omega) (by omega)
        omega
      obtain ⟨G, hG⟩ : ∃ G, (ncTo N wd l k).1 = G := ⟨_, rfl⟩
      obtain ⟨M, hMM⟩ : ∃ M, (ncTo N wd l k).2 = M := ⟨_, rfl⟩
      rw [hG] at M1
      rw [hMM] at mat1
      have HNC : Hid (ncTo N wd l (k + 1) = ncStep N wd a b G M) := by show _ = _; rw [ncTo, ea, eb, hG, hMM]
      clear hG hMM ea eb
      obtain ⟨bg, hbg⟩ : ∃ b, wr.heap.size = b := ⟨_, rfl⟩
      have bA := belowNew wr (.cells #[.int .i64 (a : Int), .int .i64 (b : Int)] 93)
      have yg := Blk.newAt (k := bg) wr #[.int .i64 (a : Int), .int .i64 (b : Int)] 93 hbg.symm
      have M2 := M1.below bA
      have mat2 := mat1.below bA
      have sB : B ≤ wr.heap.size := by have := M1.base; have := M1.lt; omega
      have B2 := Lib.hid (B1.out.trans (bA.mono sB))
      obtain ⟨wg, hwg⟩ : ∃ W, W = wr.alloc (.cells #[.int .i64 (a : Int), .int .i64 (b : Int)] 93) := ⟨_, rfl⟩
      rw [← hwg] at bA yg M2 mat2 B2
      have sBg : B ≤ wg.heap.size := Nat.le_trans sB bA.size
      obtain ⟨Ra, cRa, hca, HRa⟩ := mat2.elem (k := a) (by omega)
      obtain ⟨Rb, cRb, hcb, HRb⟩ := mat2.elem (k := b) (by omega)
      have g0c : wg.cell? ⟨bg, 0, none⟩ = some (.int .i64 (a : Int)) := yg.cell (i := 0) rfl
      have g1c : wg.cell? ⟨bg, 1, none⟩ = some (.int .i64 (b : Int)) := yg.cell (i := 1) rfl
      have A0 : (0 : Int) ≤ (a : Int) := by omega
      have A1 : (a : Int) < (m : Int) := by omega
      have B0 : (0 : Int) ≤ (b : Int) := by omega
      have Bm : (b : Int) < (m : Int) := by omega
      have YG := Lib.hid yg
      have M2H := Lib.hid M2
      have MAT2 := Lib.hid mat2
      have HRaH := Lib.hid HRa
      have HRbH := Lib.hid HRb
      clear yg M2 mat2 M1 mat1 B1 HRa HRb
      go_upto_region 4 with fail
      rw [← hwg]
      clear hwg hbg hu hv bA
      go_quiet (fail)
      obtain ⟨wd1, hwd1⟩ : ∃ W, W = wg.drewN nq := ⟨_, rfl⟩
      have bd : Below wg.heap.size wg wd1 := by rw [hwd1]; exact below_drewN (Below.refl _ _) nq
      rw [← hwd1]
      have y3 := YG.out.below' bd
      have M3 := M2H.out.below bd
      have mat3 := MAT2.out.below bd
      have ra3 := HRaH.out.below bd
      have rb3 := HRbH.out.below bd
      have B3 := Lib.hid (B2.out.trans (bd.mono sBg))
      clear hwd1 bd g0c g1c hca hcb YG M2H MAT2 HRaH HRbH B2
      go_wp2_with fail
      refine (gdSub_any q B N0 N1 R1 n1 c1 G Ra wd cRa (M a) Rb wd cRb (M b) wd1 M3 h0 h1 (by omega) ra3 rb3 (Nat.le_refl _) (by omega) (by omega)).mono ?_
      rintro e w5 ⟨R5, n5, c5, O5, cO5, rfl, O5o, M5, t5⟩
      have y5 := y3.mk t5 M3 (by decide) (by decide)
      have mat5 := mat3.mk t5 M3 (by decide)
      have ra5 := ra3.mk t5 M3
      have rb5 := rb3.mk t5 M3
      have B5 := B3.out.trans (t5.below M3 (Nat.le_refl _))
      rw [HNN.out] at O5o M5
      have M3l := M3.len
      clear y3 M3 mat3 ra3 rb3 t5 B3
      obtain ⟨ao, s, rfl, hs, HS⟩ := O5o.has.elem (k := wd) (by omega)
      have w0' : (0 : Int) ≤ (wd : Int) := by omega
      have w1' : (wd : Int) < ((wd + 1 : Nat) : Int) := by omega
      obtain ⟨G5, hG5⟩ : ∃ G5, (carTo (subStep N) G (M a) (M b) wd).1 = G5 := ⟨_, rfl⟩
      rw [hG5] at M5
      have hn5 : n5 ≤ 3100 := by
        have h1 := carSub_le N (M a) (M b) G wd
        rw [hG5, M5.len, M3l] at h1
        omega
      have HG5 := Lib.hid hG5
      clear hG5 O5o
      have HY5 := Lib.hid y5
      have HM5 := Lib.hid M5
      have HT5 := Lib.hid mat5
      have HA5 := Lib.hid ra5
      have HB5 := Lib.hid rb5
      have hFm5 : Hid (∀ (R' : Option Addr) (W' : World), MkTo q w5 (blockOf R5) W' (blockOf R') → W'.cell? ⟨bg, 0, none⟩ = some (.int .i64 (a : Int)) ∧ W'.cell? ⟨bg, 1, none⟩ = some (.int .i64 (b : Int)) ∧ W'.frozen? ⟨g, a, none⟩ = false ∧ ∃ vv, W'.cell? ⟨g, a, none⟩ = some vv) := fun R' W' hT => by
        have y := HY5.out.mk hT HM5.out (by decide) (by decide)
        have mt := HT5.out.mk hT HM5.out (by decide)
        obtain ⟨R, cR, h1, _⟩ := mt.elem (k := a) (by omega)
        exact ⟨y.cell (i := 0) rfl, y.cell (i := 1) rfl, mt.free a, _, h1⟩
      have HS5 := Lib.hid HS
      clear y5 M5 mat5 ra5 rb5 HS
      go_upto_region 6 with fail
      have T0 := (MkTo.refl q w5 (blockOf R5)).drew
      obtain ⟨f0, f1, f2, f3, f4⟩ := hFm5.out R5 w5.drew T0
      have HC := Lib.hid (gdPick_any s q B N0 N1 R5 n5 c5 G5 Ra wd cRa (M a) Rb wd cRb (M b) w5.drew HM5.out.drew h0 h1 (by omega) HA5.out HB5.out (Nat.le_refl _) (by omega) (by omega))
      clear hs
      go_region_law (first | (go_simp; go_at_call 143; refine Calls.mono HC.out ?_; rintro e w6 ⟨R6, n6, c6, O6, cO6, G6, os6, rfl, HS6, Oo6, M6, t6⟩; obtain ⟨u0, u1, u2, u3, u4⟩ := hFm5.out R6 w6 (T0.trans t6); dsimp only))
      all_goals
        have TT := T0.trans t6
        obtain ⟨mat7, M7, y7, ra7, rb7, B7⟩ := MatS.store (cR := cO6) (HT5.out.mk TT HM5.out (by decide)) (k := a) (by omega) Oo6.hasI M6 (by decide) (HY5.out.mk TT HM5.out (by decide) (by decide)) (by decide) (HA5.out.mk TT HM5.out) (HB5.out.mk TT HM5.out) hBS (B5.trans (TT.below HM5.out (Nat.le_refl _)))
        rw [HNN.out] at HS6
        have hn6 : n6 ≤ 3200 := by
          have h1 := eachPick_le N s (M a) (M b) G5 wd
          rw [HS6.out] at h1
          have h2 : G5.length = n5 := HM5.out.len
          rw [M6.len] at h1
          omega
        obtain ⟨w7, hw7⟩ : ∃ W, W = w6.setCell ⟨g, a, none⟩ (.slice O6 wd cO6) := ⟨_, rfl⟩
        rw [← hw7] at mat7 M7 y7 ra7 rb7 B7 ⊢
        clear hw7 u0 u1 u2 u3 u4 f0 f1 f2 f3 f4 HC TT T0 t6 M6 Oo6 HT5 HY5 HM5 HA5 HB5 hFm5 B5
        have HY7 := Lib.hid y7
        have HM7 := Lib.hid M7
        have HT7 := Lib.hid mat7
        have HA7 := Lib.hid ra7
        have HB7 := Lib.hid rb7
        have hFm7 : Hid (∀ (R' : Option Addr) (W' : World), MkTo q w7 (blockOf R6) W' (blockOf R') → W'.cell? ⟨bg, 0, none⟩ = some (.int .i64 (a : Int)) ∧ W'.cell? ⟨bg, 1, none⟩ = some (.int .i64 (b : Int)) ∧ W'.frozen? ⟨g, b, none⟩ = false ∧ ∃ vv, W'.cell? ⟨g, b, none⟩ = some vv) := fun R' W' hT => by
          have y := HY7.out.mk hT HM7.out (by decide) (by decide)
          have mt := HT7.out.mk hT HM7.out (by decide)
          obtain ⟨R, cR, h1, _⟩ := mt.elem (k := b) (by omega)
          exact ⟨y.cell (i := 0) rfl, y.cell (i := 1) rfl, mt.free b, _, h1⟩
        clear y7 M7 mat7 ra7 rb7
        go_upto_region 7 with fail
        have T0 := (MkTo.refl q w7 (blockOf R6)).drew
        obtain ⟨f0, f1, f2, f3, f4⟩ := hFm7.out R6 w7.drew T0
        have HC := Lib.hid (gdPick_any s q B N0 N1 R6 n6 c6 G6 Rb wd cRb (M b) Ra wd cRa (M a) w7.drew HM7.out.drew h0 h1 (by omega) HB7.out HA7.out (Nat.le_refl _) (by omega) (by omega))
        go_region_law (first | (go_simp; go_at_call 143; refine Calls.mono HC.out ?_; rintro e w8 ⟨R8, n8, c8, O8, cO8, G8, os8, rfl, HS8, Oo8, M8, t8⟩; obtain ⟨u0, u1, u2, u3, u4⟩ := hFm7.out R8 w8 (T0.trans t8); dsimp only))
        all_goals
          have TT := T0.trans t8
          obtain ⟨mat9, M9, y9, ra9, rb9, B9⟩ := MatS.store (cR := cO8) (HT7.out.mk TT HM7.out (by decide)) (k := b) (by omega) Oo8.hasI M8 (by decide) (HY7.out.mk TT HM7.out (by decide) (by decide)) (by decide) (HA7.out.mk TT HM7.out) (HB7.out.mk TT HM7.out) hBS (B7.trans (TT.below HM7.out (Nat.le_refl _)))
          rw [HNN.out] at HS8
          have HX : Hid (ncTo N wd l (k + 1) = (G8, fun j => if j = b then os8 else if j = a then os6 else M j)) := by
            show _ = _
            rw [HNC.out, ncStep]
            try simp only
            rw [HG5.out, ← HS5.out, HS6.out, HS8.out]
          obtain ⟨w9, hw9⟩ : ∃ W, W = w8.setCell ⟨g, b, none⟩ (.slice O8 wd cO8) := ⟨_, rfl⟩
          rw [← hw9] at mat9 M9 B9 ⊢
          clear hw9 u0 u1 u2 u3 u4 f0 f1 f2 f3 f4 HC TT T0 t8 M8 Oo8 y9 ra9 rb9
          go_wp2_with fail
          go_roundw
          case rel => exact ⟨k + 1, R8, n8, c8, by omega, by go_num, by rw [HX.out]; exact M9, by rw [HX.out]; exact mat9, Lib.hid B9⟩
          case measure => simp [intOf]; omega
    · obtain rfl : k = n := by omega
      go_wp2_with fail
      go_ret
      exact ⟨R1, n1, c1, rfl, M1, mat1, B1.out⟩

end Go.Proofs.Yteiibneaihdmbaa

/- The model's NetworkCircuit. -/
namespace Go.Proofs.Yteiibneaihdmbaa
open Go Go.RowKit
set_option maxRecDepth 100000


/-- The first k rows, one behind the other. -/
def catTo (M : Nat → List Int) : Nat → List Int
  | 0 => []
  | k + 1 => catTo M k ++ M k
def ncC (m wd : Nat) (l : List St) : Ci := ⟨((m * wd : Nat) : Int), 0, (ncTo (m * wd) wd l l.length).1, catTo (ncTo (m * wd) wd l l.length).2 m⟩
def m_NetworkCircuit (x : Int) (l : List St) (y : Int) : Ci × Bool := if netB x l = true ∧ 1 ≤ y ∧ y ≤ 4 ∧ x * y ≤ 20 then ifG (ncC x.toNat y.toNat l) else (zeroC, false)
theorem MatS.nil_ (w : World) (S wd : Nat) (M : Nat → List Int) : MatS w S none 0 0 wd M := ⟨[], ⟨rfl, .inl ⟨rfl, rfl⟩⟩, fun k hk => absurd hk (by omega)⟩
theorem MkTo.atq {q : Nat} {w w' w'' : World} {r r' : Option Nat} (h : MkTo q w r w' r') (hg : w'.grownBy w'' (some q)) : MkTo q w r w'' r' :=
  ⟨hg.os.trans h.os, hg.tape.trans h.tape, hg.output.trans h.output, Nat.le_trans h.size hg.size, fun i hi hq hr2 => (hg.block i (Nat.lt_of_lt_of_le hi h.size) (fun e => by injection e with e; exact hq e)).trans (h.block i hi hq hr2), h.row⟩
theorem appendMat {ops : Array Oper} {rest : List Oper} {o : Oper} {a : Act} {Q : Exit → Act → World → Prop} (w : World) (hgd : o.guard = none) (s x : Operand)
    (ho : o.op = .call { callee := .builtin .append, args := #[s, x], argTypes := #[53, 53] }) (S : Nat) (A : Option Addr) (m c wd : Nat) (M : Nat → List Int) (R : Option Addr) (cR : Nat) (hs : a.eval s = .slice A m c)
    (hx : a.eval x = .slice (some ⟨w.heap.size, 0, none⟩) 1 1) (hown : MatS w S A m c wd M) (hR : HasI w R wd (M m)) (hm : m ≤ 1000) (hS : S ≤ w.heap.size)
    (h : ∀ A' c' w', MatS w' S A' (m + 1) c' wd M → Below S w w' → wpList Try.prog ops Q rest (a.put o.dst (.slice A' (m + 1) c')) w') :
    wpList Try.prog ops Q (o :: rest) a (w.alloc (.cells #[.slice R wd cR] 23)) := by
  obtain ⟨i0, hi, hz0, hz1, hz2⟩ := info_parts infoRow
  have b := belowNew w (.cells #[.slice R wd cR] 23)
  have hl := hown.below b
  have hR2 := hR.below b
  obtain ⟨vs, hr, hrows⟩ := hl
  have hlt := hr.lt
  have hvl : vs.length = m := by simpa using hr.1
  have hbl : (Value.slice A m c).ownBlock = blockOf A := by cases A <;> rfl
  have hap : ∀ {R' : Option Addr} {zs : List Int}, HasI (w.alloc (.cells #[.slice R wd cR] 23)) R' wd zs → ∀ ad : Addr, 0 < wd → R' = some ad → some ad.block ≠ blockOf A := fun hI ad h0 e => by
    cases hA : A with
    | none => simp [blockOf]
    | some aa =>
      rcases hr.2 with ⟨hv, _⟩ | ⟨g', cap, cur, hv, _⟩
      · rw [hA] at hv; cases hv
      · injection hv with e1
        rw [e1] at hA hr
        injection hA with hA
        subst hA
        exact hasIApart hr hI ad h0 e
  refine wpList_append_own _ hgd s x _ ho S 23 i0 (.slice none 0 0) 1 24 Try.underlying53 hi hz0 hz1 hz2 rfl (by decide) (.slice A m c) m vs hs hr ⟨w.heap.size, 0, none⟩ 1 1 [.slice R wd cR] hx rfl ?_ ?_ (by simp only [maxLen]; omega) (by omega) (by simp; omega) ?_
  · intro j u hj
    match j, hj with
    | 0, hj => simp at hj; subst hj; simp [Addr.add]
  · intro u hu; simp at hu; subst hu; rfl
  · intro v' w' h1 h2 _
    obtain ⟨A', c', rfl⟩ := sliceOf h1
    rw [hbl] at h2
    refine h A' c' w' ⟨_, h1, fun k hk => ?_⟩ ((((Below.refl S w).alloc hS _)).grown h2 (by simp; omega) (fun k hk => (hlt k (by rw [hbl]; exact hk)).1))
    by_cases e : k = m
    · subst e
      exact ⟨R, cR, by rw [List.getElem?_append_right (by omega), hvl]; simp, hR2.grown h2 (hap hR2)⟩
    · obtain ⟨R', c2, e1, e2⟩ := hrows k (by omega)
      exact ⟨R', c2, by rw [List.getElem?_append_left (by omega)]; exact e1, e2.grown h2 (hap e2)⟩

theorem netC_cases (x : Int) (l : List St) (y : Int) : (netB x l = false ∧ m_NetworkCircuit x l y = (zeroC, false)) ∨ ∃ m : Nat, x = (m : Int) ∧ Net m l ∧ netB x l = true ∧
    ((decide (1 ≤ y) && decide (y ≤ 4)) = false ∧ m_NetworkCircuit x l y = (zeroC, false) ∨ ∃ wd : Nat, y = (wd : Int) ∧ 1 ≤ wd ∧ wd ≤ 4 ∧ (20 < m * wd ∧ m_NetworkCircuit x l y = (zeroC, false) ∨ m * wd ≤ 20 ∧ m_NetworkCircuit x l y = ifG (ncC m wd l))) := by
  cases hy : netB x l with
  | false => exact .inl ⟨rfl, by rw [m_NetworkCircuit, if_neg (by rw [hy]; rintro ⟨h, _⟩; cases h)]⟩
  | true =>
    obtain ⟨m, rfl, hN⟩ := net_yes hy
    refine .inr ⟨m, rfl, hN, rfl, ?_⟩
    by_cases h1 : 1 ≤ y ∧ y ≤ 4
    · refine .inr ⟨y.toNat, by omega, by omega, by omega, ?_⟩
      obtain ⟨wd, rfl⟩ : ∃ wd : Nat, y = (wd : Int) := ⟨y.toNat, by omega⟩
      have hc : ((m * wd : Nat) : Int) = (m : Int) * (wd : Int) := Int.natCast_mul _ _
      by_cases h2 : m * wd ≤ 20
      · refine .inr ⟨by rw [Int.toNat_natCast]; exact h2, ?_⟩
        rw [m_NetworkCircuit, if_pos ⟨hy, h1.1, h1.2, by omega⟩, Int.toNat_natCast]
      · refine .inl ⟨by rw [Int.toNat_natCast]; omega, ?_⟩
        rw [m_NetworkCircuit, if_neg (by rintro ⟨_, _, _, h⟩; omega)]
    · refine .inl ⟨by rw [Bool.and_eq_false_iff]; by_cases h : 1 ≤ y; exact .inr (decide_eq_false (by omega)); exact .inl (decide_eq_false h), ?_⟩
      rw [m_NetworkCircuit, if_neg (by rintro ⟨_, a, b, _⟩; omega)]
theorem netRows (m wd : Nat) (l : List St) (w4 : wd ≤ 4) : ∀ k, (ncTo (m * wd) wd l k).1.length ≤ 48 * k := fun k => by
  have h1 := ncTo_le (m * wd) wd l k
  have h2 : 12 * wd * k ≤ 48 * k := Nat.mul_le_mul (by omega) (Nat.le_refl _)
  omega

set_option maxRecDepth 100000 in
set_option maxHeartbeats 4000000 in
theorem spec_NetworkCircuit (x : Int) (Al : Option Addr) (n cl : Nat) (l : List St) (y : Int) (RC : Ci) (rb : Bool) (w : World) (_hx : I64 x) (h : HasT w Al n l) (hn : n ≤ 1048576) (_ : NilOk Al n cl) (_hy : I64 y) (hm : m_NetworkCircuit x l y = (RC, rb)) :
    Calls Try.prog 54 #[.int .i64 x, .slice Al n cl, .int .i64 y] w fun e w' => ∃ u, e = .returned (.tuple #[u, .bool rb]) ∧ HasC w' u RC ∧ RC.gs.length ≤ 1048576 ∧ RC.os.length ≤ 1048576 ∧ Below w.heap.size w w' := by
  have hl : l.length = n := h.1
  have r1 := Blk.new w #[.int .i64 0, .int .i64 0, .slice none 0 0, .slice none 0 0] 29
  have b1 := belowNew w (.cells #[.int .i64 0, .int .i64 0, .slice none 0 0, .slice none 0 0] 29)
  have hH1 := h.below b1
  obtain ⟨w1, hw1⟩ : ∃ W, W = w.alloc (.cells #[.int .i64 0, .int .i64 0, .slice none 0 0, .slice none 0 0] 29) := ⟨_, rfl⟩
  have s1 : w1.heap.size = w.heap.size + 1 := by rw [hw1]; simp
  rw [← hw1] at r1 b1 hH1
  have l1 : w.heap.size < w1.heap.size := by omega
  have hfail : ∀ wf, Below w1.heap.size w1 wf → Hid (((wf.cell? ⟨w.heap.size, 0, none⟩ = some (.int .i64 0) ∧ wf.cell? ⟨w.heap.size, 1, none⟩ = some (.int .i64 0) ∧ wf.cell? ⟨w.heap.size, 2, none⟩ = some (.slice none 0 0) ∧ wf.cell? ⟨w.heap.size, 3, none⟩ = some (.slice none 0 0)) ∧ wf.frozen? ⟨w.heap.size, 0, none⟩ = false ∧ wf.frozen? ⟨w.heap.size, 1, none⟩ = false ∧ wf.frozen? ⟨w.heap.size, 2, none⟩ = false ∧ wf.frozen? ⟨w.heap.size, 3, none⟩ = false) ∧
      (∀ a b c d : Value, Blk ((((wf.setCell ⟨w.heap.size, 0, none⟩ a).setCell ⟨w.heap.size, 1, none⟩ b).setCell ⟨w.heap.size, 2, none⟩ c).setCell ⟨w.heap.size, 3, none⟩ d) w.heap.size #[a, b, c, d] 29 ∧ Below w.heap.size w ((((wf.setCell ⟨w.heap.size, 0, none⟩ a).setCell ⟨w.heap.size, 1, none⟩ b).setCell ⟨w.heap.size, 2, none⟩ c).setCell ⟨w.heap.size, 3, none⟩ d))) := fun wf hb => by
    have rf := r1.below' hb
    refine ⟨⟨rf.four, rf.free 0, rf.free 1, rf.free 2, rf.free 3⟩, fun a b c d => ?_⟩
    obtain ⟨p, _, q⟩ := fourSet (a := a) (b := b) (c := c) (d := d) (zeroOwnZ wf (w.heap.size + 1)) rf (Nat.lt_succ_self _) (b1.trans (hb.mono b1.size)) (Nat.le_refl _)
    exact ⟨p, q⟩
  have HF := Lib.hid hfail
  clear hfail
  rcases netC_cases x l y with ⟨hno, hv⟩ | ⟨m, rfl, hN, hyes, hv⟩
  · rw [hv] at hm
    obtain ⟨rfl, rfl⟩ := Prod.mk.inj hm
    have HG := Lib.hid (soGood_any x Al n cl l false w1 hH1 hn hno)
    clear hm hv s1 hno r1 h hH1
    go_enter Try.func54, Try.ntmps54
    go_upto_region 1 with fail
    rw [← hw1]
    clear hw1
    go_wp2_with fail
    refine (HG.out).mono ?_
    rintro e w3 ⟨rfl, b3⟩
    obtain ⟨⟨⟨z0, z1, z2, z3⟩, f0, f1, f2, f3⟩, hs⟩ := (HF.out w3 b3).out
    obtain ⟨y7, B7⟩ := hs (.int .i64 0) (.int .i64 0) (.slice none 0 0) (.slice none 0 0)
    obtain ⟨e0, e1, e2, e3⟩ := y7.four
    have HB := Lib.hid B7
    clear hs y7 B7 b3 b1 HF HG
    go_wp2_with fail
    refine bodyPost_ret (v := .tuple #[.agg #[.int .i64 0, .int .i64 0, .slice none 0 0, .slice none 0 0], .bool false]) (by simp [results, Try.results54, go_sem, e0, e1, e2, e3]) rfl ⟨_, rfl, (zeroOwnZ _ 0).has, by simp [zeroC], by simp [zeroC], HB.out⟩
  · have HG := Lib.hid (soGood_any (m : Int) Al n cl l true w1 hH1 hn hyes)
    have hm1 := hN.one
    have hm12 := hN.twelve
    have hn60 : n ≤ 60 := by rw [← hl]; exact hN.short
    have HN := Lib.hid hN
    clear s1 hyes h hN
    rcases hv with ⟨hno, hv⟩ | ⟨wd, rfl, w1', w4, hv⟩
    · rw [hv] at hm
      obtain ⟨rfl, rfl⟩ := Prod.mk.inj hm
      have HW := Lib.hid (fun W => l1In_any y 1 4 false W hno)
      clear hm hv hno r1
      go_enter Try.func54, Try.ntmps54
      go_upto_region 1 with fail
      rw [← hw1]
      clear hw1
      go_wp2_with fail
      refine (HG.out).mono ?_
      rintro e w3 ⟨rfl, b3⟩
      obtain ⟨⟨⟨z0, z1, z2, z3⟩, f0, f1, f2, f3⟩, hs⟩ := (HF.out w3 b3).out
      obtain ⟨y7, B7⟩ := hs (.int .i64 0) (.int .i64 0) (.slice none 0 0) (.slice none 0 0)
      obtain ⟨e0, e1, e2, e3⟩ := y7.four
      have HB := Lib.hid B7
      clear hs y7 B7 b3 b1 HF HG
      go_wp2_with fail
      refine (HW.out w3).mono ?_
      rintro e w4 ⟨rfl, rfl⟩
      go_wp2_with fail
      refine bodyPost_ret (v := .tuple #[.agg #[.int .i64 0, .int .i64 0, .slice none 0 0, .slice none 0 0], .bool false]) (by simp [results, Try.results54, go_sem, e0, e1, e2, e3]) rfl ⟨_, rfl, (zeroOwnZ _ 0).has, by simp [zeroC], by simp [zeroC], HB.out⟩
    · have hwr : IntKind.i64.wrap ((m : Int) * (wd : Int)) = (m : Int) * (wd : Int) := by
        have : m * wd ≤ 12 * 4 := Nat.mul_le_mul hm12 w4
        have hc : ((m * wd : Nat) : Int) = (m : Int) * (wd : Int) := Int.natCast_mul _ _
        exact wrapIn (by omega) (by omega)
      have HW := Lib.hid (fun W => l1In_any (wd : Int) 1 4 true W (by simp; omega))
      rcases hv with ⟨hbig, hv⟩ | ⟨hle, hv⟩
      · rw [hv] at hm
        obtain ⟨rfl, rfl⟩ := Prod.mk.inj hm
        have hb : (20 : Int) < (m : Int) * (wd : Int) := by
          have hc : ((m * wd : Nat) : Int) = (m : Int) * (wd : Int) := Int.natCast_mul _ _
          omega
        clear hm hv hbig r1
        go_enter Try.func54, Try.ntmps54
        go_upto_region 1 with fail
        rw [← hw1]
        clear hw1
        go_wp2_with fail
        refine (HG.out).mono ?_
        rintro e w3 ⟨rfl, b3⟩
        obtain ⟨⟨⟨z0, z1, z2, z3⟩, f0, f1, f2, f3⟩, hs⟩ := (HF.out w3 b3).out
        obtain ⟨y7, B7⟩ := hs (.int .i64 0) (.int .i64 0) (.slice none 0 0) (.slice none 0 0)
        obtain ⟨e0, e1, e2, e3⟩ := y7.four
        have HB := Lib.hid B7
        clear hs y7 B7 b3 b1 HF HG
        go_wp2_with fail
        refine (HW.out w3).mono ?_
        rintro e w4 ⟨rfl, rfl⟩
        go_wp2_with fail
        refine bodyPost_ret (v := .tuple #[.agg #[.int .i64 0, .int .i64 0, .slice none 0 0, .slice none 0 0], .bool false]) (by simp [results, Try.results54, go_sem, e0, e1, e2, e3]) rfl ⟨_, rfl, (zeroOwnZ _ 0).has, by simp [zeroC], by simp [zeroC], HB.out⟩
      · rw [hv] at hm
        have hc : ((m * wd : Nat) : Int) = (m : Int) * (wd : Int) := Int.natCast_mul _ _
        have hb : ¬ ((20 : Int) < (m : Int) * (wd : Int)) := by omega
        obtain ⟨N, hNe⟩ : ∃ N, m * wd = N := ⟨_, rfl⟩
        have hN20 : N ≤ 20 := by omega
        have HM := Lib.hid hm
        have HNE := Lib.hid hNe
        have HLL := Lib.hid hl
        have HR1 := Lib.hid r1
        have HB1 := Lib.hid b1
        clear hm hv hle r1 hl hc
        go_enter Try.func54, Try.ntmps54
        go_upto_region 1 with fail
        rw [← hw1]
        clear hw1
        go_wp2_with fail
        refine (HG.out).mono ?_
        rintro e w3 ⟨rfl, b3⟩
        have B3 := Lib.hid b3
        clear b3 HG
        go_wp2_with fail
        refine (HW.out w3).mono ?_
        rintro e w4 ⟨rfl, rfl⟩
        clear HW
        go_wp2_with fail
        refine call_eq (args1 := #[.int .i64 ((m * wd : Nat) : Int), .int .i64 ((0 : Nat) : Int)]) (w1 := w3) (by simp) rfl (Calls.mono (ciNew_any (m * wd) 0 w3) ?_)
        rw [HNE.out]
        rintro e w5 ⟨q, rfl, M5, b5⟩
        have s35 := b5.size
        have B5 := Lib.hid (B3.out.trans (b5.mono B3.out.size))
        have M5H := Lib.hid M5
        have hq := M5.lt
        have hq3 := M5.base
        clear b5 M5
        go_wp2_with fail
        go_loopw [9, 10] (fun vv iv wr => ∃ (k : Nat) (A : Option Addr) (c : Nat), k ≤ m ∧ iv = .int .i64 k ∧ vv = .slice A k c ∧ MatS wr w5.heap.size A k c wd (fun j => rangeL ((j * wd : Nat) : Int) wd) ∧ Hid (Below w5.heap.size w5 wr)) (fun _ iv _ => m - (intOf iv).toNat)
        case atStart => exact ⟨0, none, 0, Nat.zero_le _, rfl, rfl, MatS.nil_ _ _ _ _, Lib.hid (Below.refl _ _)⟩
        case round =>
          obtain ⟨k, A, c, hk, rfl, rfl, mat, bk⟩ := hrel
          by_cases hlt : k < m
          · have hkw : k * wd ≤ 12 * 4 := Nat.mul_le_mul (by omega) w4
            have hck : ((k * wd : Nat) : Int) = (k : Int) * (wd : Int) := Int.natCast_mul _ _
            have hwk : IntKind.i64.wrap ((k : Int) * (wd : Int)) = (k : Int) * (wd : Int) := wrapIn (by omega) (by omega)
            go_wp2_with fail
            refine call_eq (args1 := #[.int .i64 ((k * wd : Nat) : Int), .int .i64 (wd : Int)]) (w1 := wr) (by simp) rfl (Calls.mono (gdRange_any ((k * wd : Nat) : Int) wd wr (by omega) (by omega) (by omega)) ?_)
            rintro e w6 ⟨R6, c6, rfl, o6, b6⟩
            have sk := bk.out.size
            have s6 := b6.size
            have mat6 := mat.below b6
            have BK := Lib.hid (bk.out.trans (b6.mono sk))
            clear mat bk b6 hkw hck hwk
            go_wp2_with (at_builtin; refine appendMat w6 rfl (.tmp 38) (.tmp 44) rfl w5.heap.size A k c wd (fun j => rangeL ((j * wd : Nat) : Int) wd) R6 c6 rfl rfl mat6 o6.hasI (by omega) (by omega) ?_; intro A7 c7 w7 mat7 b7)
            go_wp2_with fail
            go_roundw
            case rel => exact ⟨k + 1, A7, c7, by omega, by go_num, rfl, mat7, Lib.hid (BK.out.trans b7)⟩
            case measure => simp [intOf]; omega
          · obtain rfl : k = m := by omega
            obtain ⟨g, rfl⟩ := mat.spot (by omega)
            have skr := bk.out.size
            have BR := Lib.hid (B5.out.trans (bk.out.mono B5.out.size))
            have hstR : ∀ W, Below w3.heap.size wr W → HasT W Al n l := fun W hb => hH1.below (BR.out.trans (hb.mono B3.out.size))
            have MR := M5H.out.below bk.out
            have hCall := soCircuit_any q w3.heap.size N 0 k n cl wd w5.heap.size g c Al l wr MR (by omega) (by omega) HN.out HLL.out w1' w4 s35 hstR mat
            rw [Nat.add_zero] at hCall
            obtain ⟨G, hG⟩ : ∃ G, (ncTo N wd l n).1 = G := ⟨_, rfl⟩
            obtain ⟨M, hMM⟩ : ∃ M, (ncTo N wd l n).2 = M := ⟨_, rfl⟩
            rw [hG, hMM] at hCall
            have hT : Hid ((⟨(N : Int), 0, G, catTo M k⟩ : Ci) = ncC k wd l) := by show _ = _; rw [ncC, HNE.out, HLL.out, hG, hMM]
            have hGl : Hid (G.length ≤ 2880) := by
              have h1 := netRows k wd l w4 n
              rw [HNE.out, hG] at h1
              show _ ≤ _
              omega
            have HCall := Lib.hid hCall
            clear hCall hG hMM hstR MR mat
            go_wp2_with fail
            refine (HCall.out).mono ?_
            rintro e w8 ⟨R8, n8, c8, rfl, M8, mat8, b8⟩
            have B8 := Lib.hid (BR.out.trans (b8.mono B3.out.size))
            have H8 := Lib.hid M8
            have HT8 := Lib.hid mat8
            have T8 := MkTo.refl q w8 (blockOf R8)
            have y8 := M8.blk
            have hq8 := M8.lt
            have hg8 := M8.own
            rw [show ((0 : Nat) : Int) = 0 from rfl] at y8
            clear b8 BR HCall M8 mat8 bk
            go_wp2_with fail
            go_loopw [51] (fun iv wx => ∃ (j : Nat) (O : Option Addr) (p d : Nat), j ≤ k ∧ p ≤ 4 * j ∧ iv = .int .i64 j ∧ Blk wx q #[.int .i64 (N : Int), .int .i64 0, .slice R8 n8 c8, .slice O p d] 118 ∧ OwnG wx w3.heap.size R8 n8 c8 G ∧ Own wx w8.heap.size O p d (catTo M j) ∧ MkTo q w8 (blockOf R8) wx (blockOf R8)) (fun iv _ => k - (intOf iv).toNat)
            case atStart => exact ⟨0, none, 0, 0, Nat.zero_le _, by omega, rfl, y8, hg8, Own.nil_ _ _, T8⟩
            case round =>
              obtain ⟨j, O, p, d, hj, hp, rfl, yj, gj, oj, tj⟩ := hrel
              by_cases hlt : j < k
              · obtain ⟨Rj, cj, hcj, hRj⟩ := (HT8.out.mk tj H8.out (by decide)).elem hlt
                have q0 : (0 : Int) ≤ (j : Int) := by omega
                have q1 : (j : Int) < (k : Int) := by omega
                have x3 := yj.cell (i := 3) rfl
                have hnil : NilOk Rj wd cj := fun e => by
                  obtain ⟨ad, e2, _⟩ := hRj.1.2 (by omega)
                  rw [e] at e2
                  cases e2
                have HJ := Lib.hid (ciJoin_any O p d (catTo M j) Rj wd cj (M j) wr oj.has (by omega) (own_nilOk oj) hRj.1 (by omega) hnil)
                have Y := Lib.hid yj
                have GJ := Lib.hid gj
                have sj := tj.size
                have TJ := Lib.hid tj
                clear hnil hRj yj gj oj tj
                go_wp2_with fail
                refine (HJ.out).mono ?_
                rintro e w9 ⟨R9, c9, rfl, o9, b9⟩
                have y9 := Y.out.below' b9
                have g9 := GJ.out.below b9
                have t9 := TJ.out.next b9
                have f9 := y9.free 3
                have x9 := y9.cell (i := 3) rfl
                have hgr : w9.grownBy (w9.setCell ⟨q, 3, none⟩ (.slice R9 (p + wd) c9)) (some q) := grown_setCell (World.grownBy.refl _ _) _ _
                have ya := y9.set 3 (.slice R9 (p + wd) c9)
                have ga := g9.kept hgr (fun ad e e2 => H8.out.apart ad e (by injection e2))
                have oa := (o9.mono sj).kept hgr (fun ad e e2 => by have := o9.born ad e; injection e2 with e2; omega)
                have ta := t9.atq hgr
                obtain ⟨wa, hwa⟩ : ∃ W, W = w9.setCell ⟨q, 3, none⟩ (.slice R9 (p + wd) c9) := ⟨_, rfl⟩
                rw [← hwa] at ya ga oa ta
                clear y9 g9 t9 o9 b9 hgr Y GJ TJ HJ
                go_upto_region 13 with fail
                rw [← hwa]
                clear hwa f9 x9
                go_wp2_with fail
                go_roundw
                case rel => exact ⟨j + 1, R9, p + wd, c9, by omega, by omega, by go_num, ya, ga, oa, ta⟩
                case measure => simp [intOf]; omega
              · obtain rfl : j = k := by omega
                have sj := tj.size
                have s13 : w1.heap.size ≤ w3.heap.size := B3.out.size
                have BJ := Lib.hid (B8.out.trans (tj.below H8.out s13))
                have hol : (catTo M j).length = p := oj.1
                have hsz : (ncC j wd l).gs.length ≤ 1048576 ∧ (ncC j wd l).os.length ≤ 1048576 := by
                  rw [← hT.out]
                  have := hGl.out
                  exact ⟨by show G.length ≤ _; omega, by show (catTo M j).length ≤ _; omega⟩
                have HSz : Hid (RC.gs.length ≤ 1048576 ∧ RC.os.length ≤ 1048576) := by
                  have e := HM.out
                  rw [ifG] at e
                  split at e
                  · obtain ⟨rfl, _⟩ := Prod.mk.inj e; exact hsz
                  · obtain ⟨rfl, _⟩ := Prod.mk.inj e; exact ⟨by simp, by simp⟩
                have hI := ciIf_any (.agg #[.int .i64 (N : Int), .int .i64 0, .slice R8 n8 c8, .slice O p d]) (ncC j wd l) w3.heap.size wr (by rw [← hT.out]; exact ⟨R8, n8, c8, O, p, d, rfl, gj, oj.mono (by omega)⟩) hsz
                rw [HM.out] at hI
                have HI := Lib.hid hI
                obtain ⟨k0, k1, k2, k3⟩ := yj.four
                have l3 : w.heap.size < w3.heap.size := by omega
                clear hI yj gj oj tj hsz hol
                go_wp2_with fail
                refine (HI.out).mono ?_
                rintro e w9 ⟨u, rfl, ou, b9⟩
                obtain ⟨Gx, nx, cx, Ox, mx, dx, rfl, _, _⟩ := id ou
                obtain ⟨⟨⟨z0, z1, z2, z3⟩, f0, f1, f2, f3⟩, hs⟩ := (HF.out w9 (BJ.out.trans (b9.mono BJ.out.size))).out
                obtain ⟨y7, B7⟩ := hs (.int .i64 RC.in0) (.int .i64 RC.in1) (.slice Gx nx cx) (.slice Ox mx dx)
                obtain ⟨e0, e1, e2, e3⟩ := y7.four
                have g10 := grown_setCell (grown_setCell (grown_setCell (grown_setCell (World.grownBy.refl w9 (some w.heap.size)) 0 (.int .i64 RC.in0)) 1 (.int .i64 RC.in1)) 2 (.slice Gx nx cx)) 3 (.slice Ox mx dx)
                have HZ := Lib.hid (And.intro (ou.kept g10 l3) B7)
                clear hs y7 B7 b9 HI ou g10 k0 k1 k2 k3
                go_wp2_with fail
                refine bodyPost_ret (v := .tuple #[.agg #[.int .i64 RC.in0, .int .i64 RC.in1, .slice Gx nx cx, .slice Ox mx dx], .bool rb]) (by simp [results, Try.results54, go_sem, e0, e1, e2, e3]) rfl ⟨_, rfl, HZ.out.1.has, HSz.out.1, HSz.out.2, HZ.out.2⟩

end Go.Proofs.Yteiibneaihdmbaa
