/- Several texts in one: SiE1, SiE3, SiE2, SiM4. What each says stands at its head. -/
import Derived.Test.YteiibneaihdmbaaSiM2
import Derived.Test.YteiibneaihdmbaaCirIA
import Derived.Test.YteiibneaihdmbaaRet
import Derived.WalkMore
import Derived.Deep.DeepCutAuto
import Derived.Deep.CutBlock
import Derived.ScopeJumps
import Derived.Test.YteiibneaihdmbaaCirA1

/- Equal gates: the model's siSame, the program's areEqualGates and firstEqual. For at most 1048576 gates. -/
namespace Go.Proofs.Yteiibneaihdmbaa
open Go.RowKit
set_option maxRecDepth 100000

/-- The same kind and the same wires, in any order. -/
def sameG (g h : Ga) : Bool := decide (g.1 = h.1) && (decide (g.2.1 = h.2.1) && decide (g.2.2 = h.2.2) || !decide (g.1 = 2) && decide (g.2.1 = h.2.2) && decide (g.2.2 = h.2.1))
/-- The same as the program has it. -/
def sameI (g h : Ga) : Bool := decide (g = h) || decide (g = (h.1, h.2.2, h.2.1))
theorem sameI_is {g h : Ga} (hg : g.1 = 2 → g.2.2 = 0) (hh : h.1 = 2 → h.2.2 = 0) : sameI g h = sameG g h := by
  obtain ⟨x, y, z⟩ := g
  obtain ⟨x', y', z'⟩ := h
  simp only at hg hh
  rw [Bool.eq_iff_iff]
  simp only [sameI, sameG, Bool.or_eq_true, Bool.and_eq_true, decide_eq_true_eq, Bool.not_eq_true', decide_eq_false_iff_not, Prod.mk.injEq]
  constructor
  · rintro (⟨rfl, rfl, rfl⟩ | ⟨rfl, rfl, rfl⟩)
    · exact ⟨rfl, .inl ⟨rfl, rfl⟩⟩
    · by_cases h2 : x = 2
      · have a := hg h2
        have b := hh h2
        exact ⟨rfl, .inl ⟨by omega, by omega⟩⟩
      · exact ⟨rfl, .inr ⟨⟨h2, rfl⟩, rfl⟩⟩
  · rintro ⟨rfl, ⟨rfl, rfl⟩ | ⟨⟨_, rfl⟩, rfl⟩⟩
    · exact .inl ⟨rfl, rfl, rfl⟩
    · exact .inr ⟨rfl, rfl, rfl⟩

set_option maxRecDepth 100000 in
set_option maxHeartbeats 2000000 in
theorem siSame_any (x y z x' y' z' : Int) (b : Bool) (w : World) (hb : sameG (x, y, z) (x', y', z') = b) :
    Calls Try.prog 61 #[.agg #[.int .i64 x, .int .i64 y, .int .i64 z], .agg #[.int .i64 x', .int .i64 y', .int .i64 z']] w fun e w' => e = .returned (.bool b) ∧ Below w.heap.size w w' := by
  have b1 := belowNew w (.cells #[.int .i64 x, .int .i64 y, .int .i64 z] 69)
  have p1 := Blk.new w #[.int .i64 x, .int .i64 y, .int .i64 z] 69
  obtain ⟨W1, hW1⟩ : ∃ W, W = w.alloc (.cells #[.int .i64 x, .int .i64 y, .int .i64 z] 69) := ⟨_, rfl⟩
  have s1 : W1.heap.size = w.heap.size + 1 := by rw [hW1]; simp
  rw [← hW1] at b1 p1
  have b2 := belowNew W1 (.cells #[.int .i64 x', .int .i64 y', .int .i64 z'] 69)
  have r2 := Blk.newAt (k := w.heap.size + 1) W1 #[.int .i64 x', .int .i64 y', .int .i64 z'] 69 s1.symm
  have p2 := p1.below' b2
  obtain ⟨W2, hW2⟩ : ∃ W, W = W1.alloc (.cells #[.int .i64 x', .int .i64 y', .int .i64 z'] 69) := ⟨_, rfl⟩
  rw [← hW2] at b2 r2 p2
  have B2 := b1.trans (b2.mono b1.size)
  obtain ⟨c0, c1, c2⟩ := p2.three
  obtain ⟨d0, d1, d2⟩ := r2.three
  simp only [sameG] at hb
  clear b1 b2 p1 p2 r2 s1
  go_enter Try.func61, Try.ntmps61
  go_upto_region 1 with fail
  rw [← hW1, ← hW2]
  clear hW1 hW2
  by_cases h1 : x = x'
  · subst h1
    by_cases h2 : y = y' <;> by_cases h3 : z = z' <;> by_cases h4 : x = 2 <;> by_cases h5 : y = z' <;> by_cases h6 : z = y'
    all_goals (first | (exfalso; omega) | skip)
    all_goals
      simp only [h2, h3, h4, h5, h6, decide_true, decide_false, Bool.and_true, Bool.true_and, Bool.and_false, Bool.false_and, Bool.or_true, Bool.true_or, Bool.or_false, Bool.not_true, Bool.not_false] at hb
      have HB := Lib.hid hb
      clear hb
      go_wp2_with fail
      go_ret
      exact ⟨retBl (by first | exact HB.out | (rw [← HB.out]; simp [*])), B2⟩
  · obtain rfl : false = b := by rw [← hb, decide_eq_false h1]; rfl
    clear hb
    go_wp2_with fail
    go_ret
    exact ⟨retBl (by simp), B2⟩

end Go.Proofs.Yteiibneaihdmbaa

/- The program's areEqualGates. No condition. -/
namespace Go.Proofs.Yteiibneaihdmbaa
open Go.RowKit

set_option maxRecDepth 100000 in
set_option maxHeartbeats 2000000 in
theorem areEqualGates_any (x y z x' y' z' : Int) (b : Bool) (w : World) (hb : sameI (x, y, z) (x', y', z') = b) :
    Calls Try.prog 123 #[.agg #[.int .i64 x, .int .i64 y, .int .i64 z], .agg #[.int .i64 x', .int .i64 y', .int .i64 z']] w fun e w' => e = .returned (.bool b) ∧ Below w.heap.size w w' := by
  have b1 := belowNew w (.cells #[.int .i64 x, .int .i64 y, .int .i64 z] 69)
  have p1 := Blk.new w #[.int .i64 x, .int .i64 y, .int .i64 z] 69
  obtain ⟨W1, hW1⟩ : ∃ W, W = w.alloc (.cells #[.int .i64 x, .int .i64 y, .int .i64 z] 69) := ⟨_, rfl⟩
  have s1 : W1.heap.size = w.heap.size + 1 := by rw [hW1]; simp
  rw [← hW1] at b1 p1
  have b2 := belowNew W1 (.cells #[.int .i64 x', .int .i64 y', .int .i64 z'] 69)
  have r2 := Blk.newAt (k := w.heap.size + 1) W1 #[.int .i64 x', .int .i64 y', .int .i64 z'] 69 s1.symm
  have p2 := p1.below' b2
  obtain ⟨W2, hW2⟩ : ∃ W, W = W1.alloc (.cells #[.int .i64 x', .int .i64 y', .int .i64 z'] 69) := ⟨_, rfl⟩
  rw [← hW2] at b2 r2 p2
  have B2 := b1.trans (b2.mono b1.size)
  obtain ⟨c0, c1, c2⟩ := p2.three
  obtain ⟨d0, d1, d2⟩ := r2.three
  simp only [sameI, Prod.mk.injEq] at hb
  clear b1 b2 p1 p2 r2 s1
  go_enter Try.func123, Try.ntmps123
  go_upto_region 1 with fail
  rw [← hW1, ← hW2]
  clear hW1 hW2
  by_cases h1 : x = x'
  · subst h1
    by_cases h2 : y = y' <;> by_cases h3 : z = z' <;> by_cases h5 : y = z' <;> by_cases h6 : z = y'
    all_goals (first | (exfalso; omega) | skip)
    all_goals
      simp [h2, h3, h5, h6] at hb
      have HB := Lib.hid hb
      clear hb
      go_wp2_with fail
      go_ret
      exact ⟨retBl (by first | exact HB.out | exact HB.out.symm | (rw [← HB.out]; exact (decide_eq_false (by omega)).symm) | (rw [← HB.out]; exact (decide_eq_true (by omega)).symm) | (rw [HB.out]; exact (decide_eq_false (by omega)).symm) | (rw [HB.out]; exact (decide_eq_true (by omega)).symm)), B2⟩
  · have hf : false = b := by
      rw [← hb]
      simp [h1]
    subst hf
    clear hb
    go_wp2_with fail
    go_ret
    exact ⟨rfl, B2⟩

end Go.Proofs.Yteiibneaihdmbaa

/- The program's firstEqual: a search by goto. For at most 1048576 gates. -/
namespace Go.Proofs.Yteiibneaihdmbaa
open Go.RowKit

/-- The first of the gates before n that is the same as g; n if there is none. -/
def eqTo (gs : List Ga) (g : Ga) : Nat → Nat
  | 0 => 0
  | n + 1 => if eqTo gs g n < n then eqTo gs g n else if sameI (gs.getD n g0) g = true then n else n + 1
theorem eqTo_le (gs : List Ga) (g : Ga) : ∀ n, eqTo gs g n ≤ n
  | 0 => Nat.le_refl _
  | n + 1 => by
    have := eqTo_le gs g n
    rw [eqTo]
    split
    · omega
    · split <;> omega
theorem eqTo_next {gs : List Ga} {g : Ga} {n : Nat} (h : eqTo gs g n = n) (hn : sameI (gs.getD n g0) g = false) : eqTo gs g (n + 1) = n + 1 := by
  rw [eqTo, if_neg (by omega), if_neg (by rw [hn]; decide)]
theorem eqTo_here {gs : List Ga} {g : Ga} {n : Nat} (h : eqTo gs g n = n) (hn : sameI (gs.getD n g0) g = true) : ∀ m, n < m → eqTo gs g m = n
  | 0, hm => by omega
  | m + 1, hm => by
    rw [eqTo]
    by_cases e : m = n
    · subst e; rw [if_neg (by omega), if_pos hn]
    · rw [eqTo_here h hn m (by omega), if_pos (by omega)]

def idxI : Value → Int
  | .int _ z => z
  | _ => 0

/-- What holds at each jump back. -/
def FeRel (A : Option Addr) (n c : Nat) (gs : List Ga) (x y z : Int) (q : Nat) (W1 : World) (a' : Act) (w' : World) : Prop :=
  ∃ (i : Nat) (u4 u6 u7 u8 u9 u10 u11 u12 u13 u14 u15 u16 u17 u18 u19 u20 u21 : Value), a' = { tmps := #[.slice A n c, .agg #[.int .i64 x, .int .i64 y, .int .i64 z], undef, .pointer (some ⟨q, 0, none⟩), u4, .int .i64 (i : Int), u6, u7, u8, u9, u10, u11, u12, u13, u14, u15, u16, u17, u18, u19, u20, u21], defers := [] } ∧ i ≤ n ∧ Hid (eqTo gs (x, y, z) i = i) ∧ Below W1.heap.size W1 w'

set_option maxRecDepth 1000000 in
set_option maxHeartbeats 1000000 in
theorem firstEqual_any (A : Option Addr) (n c : Nat) (gs : List Ga) (x y z : Int) (w : World) (h : HasG w A n gs) (hn : n ≤ 1048576) :
    Calls Try.prog 69 #[.slice A n c, .agg #[.int .i64 x, .int .i64 y, .int .i64 z]] w fun e w' => e = .returned (.int .i64 (eqTo gs (x, y, z) n : Int)) ∧ Below w.heap.size w w' := by
  have b1 := belowNew w (.cells #[.int .i64 x, .int .i64 y, .int .i64 z] 69)
  have p1 := Blk.new w #[.int .i64 x, .int .i64 y, .int .i64 z] 69
  obtain ⟨W1, hW1⟩ : ∃ W, W = w.alloc (.cells #[.int .i64 x, .int .i64 y, .int .i64 z] 69) := ⟨_, rfl⟩
  rw [← hW1] at b1 p1
  have h1 := h.below b1
  go_enter Try.func69, Try.ntmps69
  go_wp2_with fail
  rw [← hW1]
  clear hW1
  have HP1 := Lib.hid p1
  clear p1
  refine wp_scope_jumps 0 (FeRel A n c gs x y z w.heap.size W1) (fun a' _ => n - (idxI (a'.tmps.getD 5 undef)).toNat) rfl ?_ ?_
  · go_wp2_with fail
    go_step3
    obtain ⟨wr, hwr⟩ : ∃ W, W = W1 := ⟨_, rfl⟩
    have bk : Below W1.heap.size W1 wr := by rw [hwr]; exact Below.refl _ _
    obtain ⟨i, hi0⟩ : ∃ i : Nat, i = 0 := ⟨_, rfl⟩
    have HE : Hid (eqTo gs (x, y, z) i = i) := by rw [hi0]; exact rfl
    have hi : i ≤ n := by omega
    rw [show (0 : Int) = (i : Int) by omega, ← hwr]
    clear hwr hi0
    by_cases hlt : i < n
    · obtain ⟨ad, gx, gy, gz, hAd, hgx, hgy, hgz, HEl⟩ := (h1.below bk).elem hlt
      subst hAd
      have q0 : (0 : Int) ≤ (i : Int) := by omega
      have q1 : (i : Int) < (n : Int) := by omega
      have D : Below wr.heap.size wr wr.drew := (Below.refl _ wr).drew
      have hcx : Hid (∀ W', Below wr.heap.size wr W' → W'.cell? (ad.add (i * 3)) = some (.int .i64 gx) ∧ W'.cell? ⟨(ad.add (i * 3)).block, (ad.add (i * 3)).off + 1, none⟩ = some (.int .i64 gy) ∧ W'.cell? ⟨(ad.add (i * 3)).block, (ad.add (i * 3)).off + 2, none⟩ = some (.int .i64 gz) ∧ W'.cell? ⟨w.heap.size, 0, none⟩ = some (.int .i64 x) ∧ W'.cell? ⟨w.heap.size, 1, none⟩ = some (.int .i64 y) ∧ W'.cell? ⟨w.heap.size, 2, none⟩ = some (.int .i64 z)) := fun W' hb => by
        obtain ⟨ad', gx', gy', gz', hAd', e1, e2, e3, HEl'⟩ := ((h1.below bk).below hb).elem hlt
        injection hAd' with hAd'
        subst hAd'
        have e := HEl.out.symm.trans HEl'.out
        injection e with ex e
        injection e with ey ez
        subst ex; subst ey; subst ez
        obtain ⟨k0, k1, k2⟩ := ((HP1.out.below' bk).below' hb).three
        exact ⟨e1, e2, e3, k0, k1, k2⟩
      obtain ⟨b, hb⟩ : ∃ b, sameI (gx, gy, gz) (x, y, z) = b := ⟨_, rfl⟩
      have HEq := Lib.hid (areEqualGates_any gx gy gz x y z b wr.drew hb)
      have HB : Hid (sameI (gs.getD i g0) (x, y, z) = b) := by show _ = _; rw [HEl.out]; exact hb
      have BK := Lib.hid bk
      clear hb bk hgx hgy hgz
      go_upto_region 2 with fail
      go_cut [18] (fun v wx => v = .bool (!b) ∧ Hid (Below W1.heap.size W1 wx))
      case first =>
        obtain ⟨f0, f1, f2, f3, f4, f5⟩ := hcx.out wr.drew D
        go_wp2_with fail
        first
          | (go_region_law (first | (go_simp; go_at_call 123; refine Calls.mono HEq.out ?_; rintro e w4 ⟨rfl, b4⟩; have Bq := D.trans (b4.mono D.size); dsimp only)))
          | fail
        all_goals
          go_wp2_with fail
          go_meet
          exact ⟨rfl, Lib.hid (BK.out.trans (Bq.mono BK.out.size))⟩
      case rest =>
        obtain ⟨rfl, B4⟩ := hcut
        obtain ⟨w5, rfl⟩ : ∃ x, x = wc := ⟨_, rfl⟩
        clear hcx HEq
        cases b with
        | true =>
          have HN : Hid (eqTo gs (x, y, z) n = i) := eqTo_here HE.out HB.out n hlt
          go_wp2_with fail
          simp only [Exit.jump]
          go_ret
          exact ⟨retI (by rw [HN.out]), b1.trans (B4.out.mono b1.size)⟩
        | false =>
          go_wp2_with fail
          go_step3
          exact ⟨rfl, ⟨i + 1, _, _, _, _, _, _, _, _, _, _, _, _, _, _, _, _, _, by go_num, by omega, Lib.hid (eqTo_next HE.out HB.out), B4.out⟩⟩
    · obtain rfl : i = n := by omega
      have D : Below wr.heap.size wr wr.drew := (Below.refl _ wr).drew
      have B4 := bk.trans (D.mono bk.size)
      go_wp2_with fail
      go_quiet (fail)
      go_wp2_with fail
      simp only [Exit.jump]
      go_ret
      exact ⟨retI (by rw [HE.out]), b1.trans ((below_drewN bk _).mono b1.size)⟩

  · rintro a' wr ⟨i, u4, u6, u7, u8, u9, u10, u11, u12, u13, u14, u15, u16, u17, u18, u19, u20, u21, rfl, hi, HE, bk⟩
    by_cases hlt : i < n
    · obtain ⟨ad, gx, gy, gz, hAd, hgx, hgy, hgz, HEl⟩ := (h1.below bk).elem hlt
      subst hAd
      have q0 : (0 : Int) ≤ (i : Int) := by omega
      have q1 : (i : Int) < (n : Int) := by omega
      have D : Below wr.heap.size wr wr.drew := (Below.refl _ wr).drew
      have hcx : Hid (∀ W', Below wr.heap.size wr W' → W'.cell? (ad.add (i * 3)) = some (.int .i64 gx) ∧ W'.cell? ⟨(ad.add (i * 3)).block, (ad.add (i * 3)).off + 1, none⟩ = some (.int .i64 gy) ∧ W'.cell? ⟨(ad.add (i * 3)).block, (ad.add (i * 3)).off + 2, none⟩ = some (.int .i64 gz) ∧ W'.cell? ⟨w.heap.size, 0, none⟩ = some (.int .i64 x) ∧ W'.cell? ⟨w.heap.size, 1, none⟩ = some (.int .i64 y) ∧ W'.cell? ⟨w.heap.size, 2, none⟩ = some (.int .i64 z)) := fun W' hb => by
        obtain ⟨ad', gx', gy', gz', hAd', e1, e2, e3, HEl'⟩ := ((h1.below bk).below hb).elem hlt
        injection hAd' with hAd'
        subst hAd'
        have e := HEl.out.symm.trans HEl'.out
        injection e with ex e
        injection e with ey ez
        subst ex; subst ey; subst ez
        obtain ⟨k0, k1, k2⟩ := ((HP1.out.below' bk).below' hb).three
        exact ⟨e1, e2, e3, k0, k1, k2⟩
      obtain ⟨b, hb⟩ : ∃ b, sameI (gx, gy, gz) (x, y, z) = b := ⟨_, rfl⟩
      have HEq := Lib.hid (areEqualGates_any gx gy gz x y z b wr.drew hb)
      have HB : Hid (sameI (gs.getD i g0) (x, y, z) = b) := by show _ = _; rw [HEl.out]; exact hb
      have BK := Lib.hid bk
      clear hb bk hgx hgy hgz
      go_upto_region 2 with fail
      go_cut [18] (fun v wx => v = .bool (!b) ∧ Hid (Below W1.heap.size W1 wx))
      case first =>
        obtain ⟨f0, f1, f2, f3, f4, f5⟩ := hcx.out wr.drew D
        go_wp2_with fail
        first
          | (go_region_law (first | (go_simp; go_at_call 123; refine Calls.mono HEq.out ?_; rintro e w4 ⟨rfl, b4⟩; have Bq := D.trans (b4.mono D.size); dsimp only)))
          | fail
        all_goals
          go_wp2_with fail
          go_meet
          exact ⟨rfl, Lib.hid (BK.out.trans (Bq.mono BK.out.size))⟩
      case rest =>
        obtain ⟨rfl, B4⟩ := hcut
        obtain ⟨w5, rfl⟩ : ∃ x, x = wc := ⟨_, rfl⟩
        clear hcx HEq
        cases b with
        | true =>
          have HN : Hid (eqTo gs (x, y, z) n = i) := eqTo_here HE.out HB.out n hlt
          go_wp2_with fail
          simp only [Exit.jump]
          go_ret
          exact ⟨retI (by rw [HN.out]), b1.trans (B4.out.mono b1.size)⟩
        | false =>
          go_wp2_with fail
          go_step3
          refine ⟨rfl, ⟨i + 1, _, _, _, _, _, _, _, _, _, _, _, _, _, _, _, _, _, by go_num, by omega, Lib.hid (eqTo_next HE.out HB.out), B4.out⟩, ?_⟩
          simp [idxI]
          omega
    · obtain rfl : i = n := by omega
      have D : Below wr.heap.size wr wr.drew := (Below.refl _ wr).drew
      have B4 := bk.trans (D.mono bk.size)
      go_wp2_with fail
      go_quiet (fail)
      go_wp2_with fail
      simp only [Exit.jump]
      go_ret
      exact ⟨retI (by rw [HE.out]), b1.trans ((below_drewN bk _).mono b1.size)⟩

end Go.Proofs.Yteiibneaihdmbaa

/- Merged gates as mathematics. -/
namespace Go.Proofs.Yteiibneaihdmbaa
open Go Go.RowKit

/-- What a wire is replaced by, where gs are the gates so far and p is the number of inputs. -/
def mgAt (gs : List Ga) (p i : Nat) : Int := if i < p then (i : Int) else (p : Int) + (eqTo gs (gs.getD (i - p) g0) (i - p) : Int)
/-- The first k gates, with replaced wires. -/
def mgG (C : Ci) : Nat → List Ga
  | 0 => []
  | k + 1 => mgG C k ++ [mvG (mgAt (mgG C k) C.ins.toNat) (C.gs.getD k g0)]
def mgP (C : Ci) (k : Nat) : Nat → Int := mgAt (mgG C k) C.ins.toNat
def mergeC (C : Ci) : Ci := ⟨C.in0, C.in1, mgG C C.gs.length, C.os.map fun z => mgP C C.gs.length z.toNat⟩
def m_MergeGates (C : Ci) : Ci × Bool := if gd C = true then (mergeC C, true) else (⟨0, 0, [], []⟩, false)
theorem mgG_length (C : Ci) : ∀ k, (mgG C k).length = k
  | 0 => rfl
  | k + 1 => by rw [mgG, List.length_append, mgG_length C k]; rfl
theorem mgG_next (C : Ci) (k : Nat) : mgG C (k + 1) = mgG C k ++ [mvG (mgP C k) (C.gs.getD k g0)] := rfl
theorem mgG_at (C : Ci) {k j : Nat} (h : j < k) : (mgG C (k + 1)).getD j g0 = (mgG C k).getD j g0 := by
  rw [mgG_next]
  simp [List.getD, List.getElem?_append_left (show j < (mgG C k).length by rw [mgG_length]; exact h)]
theorem mgG_last (C : Ci) (k : Nat) : (mgG C (k + 1)).getD k g0 = mvG (mgP C k) (C.gs.getD k g0) := by
  have hl := mgG_length C k
  rw [mgG_next]
  simp [List.getD, hl]
theorem eqTo_congr {gs hs : List Ga} {g : Ga} : ∀ {m : Nat}, (∀ j, j < m → gs.getD j g0 = hs.getD j g0) → eqTo gs g m = eqTo hs g m
  | 0, _ => rfl
  | m + 1, h => by rw [eqTo, eqTo, eqTo_congr (m := m) (fun j hj => h j (by omega)), h m (by omega)]
theorem eqTo_stop {gs : List Ga} {g : Ga} {m : Nat} (h : eqTo gs g m < m) : ∀ d, eqTo gs g (m + d) = eqTo gs g m
  | 0 => rfl
  | d + 1 => by
    have ih := eqTo_stop h d
    rw [← Nat.add_assoc, eqTo, ih, if_pos (by omega)]
theorem sameI_self (g : Ga) : sameI g g = true := by simp [sameI]
/-- The search over all gates finds the gate itself, if nothing before it. -/
theorem eqTo_self {gs : List Ga} {k : Nat} : ∀ {n : Nat}, k < n → eqTo gs (gs.getD k g0) n = eqTo gs (gs.getD k g0) k := fun {n} hk => by
  by_cases h : eqTo gs (gs.getD k g0) k < k
  · have := eqTo_stop h (n - k)
    rwa [show k + (n - k) = n by omega] at this
  · have hle := eqTo_le gs (gs.getD k g0) k
    have e : eqTo gs (gs.getD k g0) k = k := by omega
    rw [e]
    exact eqTo_here e (sameI_self _) n hk
theorem mgP_low {C : Ci} {k i : Nat} (h : i < C.ins.toNat) : mgP C k i = (i : Int) := by rw [mgP, mgAt, if_pos h]
theorem mgP_next {C : Ci} {k i : Nat} (h : i < C.ins.toNat + k) : mgP C (k + 1) i = mgP C k i := by
  unfold mgP mgAt
  by_cases hi : i < C.ins.toNat
  · rw [if_pos hi, if_pos hi]
  · rw [if_neg hi, if_neg hi, mgG_at C (by omega), eqTo_congr (fun j hj => mgG_at C (by omega))]
theorem mgP_last (C : Ci) (k : Nat) : mgP C (k + 1) (C.ins.toNat + k) = (C.ins.toNat : Int) + (eqTo (mgG C (k + 1)) (mvG (mgP C k) (C.gs.getD k g0)) k : Int) := by
  show mgAt _ _ _ = _
  rw [mgAt, if_neg (by omega), Nat.add_sub_cancel_left, mgG_last]
/-- The places of the first wires. -/
def mgL (C : Ci) (k : Nat) : List Int := mapTo (mgP C k) (C.ins.toNat + k)
theorem mgL_next (C : Ci) (k : Nat) : mgL C (k + 1) = mgL C k ++ [mgP C (k + 1) (C.ins.toNat + k)] := by
  rw [mgL, ← Nat.add_assoc, mapTo_succ, mapTo_eq (fun i hi => mgP_next hi)]
  rfl
theorem mgL_zero (C : Ci) : mgL C 0 = rangeL 0 C.ins.toNat := mapTo_eq (fun k hk => by rw [mgP_low hk]; omega)
theorem mgL_at {C : Ci} {k i : Nat} (h : i < C.ins.toNat + k) : (mgL C k).getD i 0 = mgP C k i := mapTo_at _ h
theorem mgL_length (C : Ci) (k : Nat) : (mgL C k).length = C.ins.toNat + k := mapTo_length _ _
theorem mgP_range {C : Ci} {k i : Nat} (_h : i < C.ins.toNat + k) : 0 ≤ mgP C k i ∧ mgP C k i ≤ (i : Int) := by
  unfold mgP mgAt
  by_cases hi : i < C.ins.toNat
  · rw [if_pos hi]; omega
  · rw [if_neg hi]
    have := eqTo_le (mgG C k) ((mgG C k).getD (i - C.ins.toNat) g0) (i - C.ins.toNat)
    omega
/-- A gate NOT has a second part of 0, also when its wires are replaced. -/
theorem mvG_two {pl : Nat → Int} {g : Ga} : (mvG pl g).1 = 2 → (mvG pl g).2.2 = 0 := by
  unfold mvG
  split
  · rename_i h; intro e; simp only at e; rcases h with h | h <;> omega
  · split
    · intro _; rfl
    · intro e; rename_i h; exact absurd e h
theorem mgG_two (C : Ci) : ∀ (k j : Nat), j < k → ((mgG C k).getD j g0).1 = 2 → ((mgG C k).getD j g0).2.2 = 0
  | 0, j, hj => by omega
  | k + 1, j, hj => by
    by_cases e : j = k
    · subst e; rw [mgG_last]; exact mvG_two
    · rw [mgG_at C (by omega)]; exact mgG_two C k j (by omega)

/-! ## the search from behind -/
/-- The least of the last d numbers below k whose gate is the same as g; k if there is none. -/
def fdn (gs : List Ga) (g : Ga) (k : Nat) : Nat → Nat
  | 0 => k
  | d + 1 => if sameI (gs.getD (k - (d + 1)) g0) g = true then k - (d + 1) else fdn gs g k d
theorem fdn_spec (gs : List Ga) (g : Ga) (k : Nat) : ∀ d, d ≤ k → k - d ≤ fdn gs g k d ∧ fdn gs g k d ≤ k ∧ (fdn gs g k d < k → sameI (gs.getD (fdn gs g k d) g0) g = true) ∧ ∀ i, k - d ≤ i → i < fdn gs g k d → sameI (gs.getD i g0) g = false
  | 0, _ => ⟨by simp [fdn], Nat.le_refl _, fun h => by simp [fdn] at h, fun i h1 h2 => by simp [fdn] at h2; omega⟩
  | d + 1, h => by
    obtain ⟨h1, h2, h3, h4⟩ := fdn_spec gs g k d (by omega)
    rw [fdn]
    by_cases e : sameI (gs.getD (k - (d + 1)) g0) g = true
    · rw [if_pos e]
      exact ⟨Nat.le_refl _, by omega, fun _ => e, fun i a b => by omega⟩
    · rw [if_neg e]
      refine ⟨by omega, h2, h3, fun i a b => ?_⟩
      by_cases ei : i = k - (d + 1)
      · subst ei; simpa using e
      · exact h4 i (by omega) b
theorem eqTo_spec (gs : List Ga) (g : Ga) : ∀ m, (eqTo gs g m < m → sameI (gs.getD (eqTo gs g m) g0) g = true) ∧ ∀ i, i < eqTo gs g m → sameI (gs.getD i g0) g = false
  | 0 => ⟨fun h => by simp [eqTo] at h, fun i h => by simp [eqTo] at h⟩
  | m + 1 => by
    obtain ⟨h1, h2⟩ := eqTo_spec gs g m
    have hle := eqTo_le gs g m
    rw [eqTo]
    by_cases e : eqTo gs g m < m
    · rw [if_pos e]
      exact ⟨fun _ => h1 e, h2⟩
    · have em : eqTo gs g m = m := by omega
      rw [if_neg e]
      by_cases s : sameI (gs.getD m g0) g = true
      · rw [if_pos s]
        exact ⟨fun _ => s, fun i hi => h2 i (by omega)⟩
      · rw [if_neg s]
        refine ⟨fun h => by omega, fun i hi => ?_⟩
        by_cases ei : i = m
        · subst ei; simpa using s
        · exact h2 i (by omega)
theorem fdn_all (gs : List Ga) (g : Ga) (k : Nat) : fdn gs g k k = eqTo gs g k := by
  obtain ⟨_, a2, a3, a4⟩ := fdn_spec gs g k k (Nat.le_refl _)
  obtain ⟨b1, b2⟩ := eqTo_spec gs g k
  have b3 := eqTo_le gs g k
  rcases Nat.lt_trichotomy (fdn gs g k k) (eqTo gs g k) with h | h | h
  · have := b2 _ h
    rw [a3 (by omega)] at this
    cases this
  · exact h
  · have := a4 _ (by omega) h
    rw [b1 (by omega)] at this
    cases this

/-- The model's row of first wires while the k-th gate's is v. -/
def mgV (C : Ci) (n k : Nat) (v : Int) : List Int := mapTo (fun i => if i < C.ins.toNat + k then mgP C k i else if i = C.ins.toNat + k then v else (i : Int)) (C.ins.toNat + n)
theorem mgV_start (C : Ci) (n : Nat) : mgV C n 0 ((C.ins.toNat + 0 : Nat) : Int) = rangeL 0 (C.ins.toNat + n) := mapTo_eq (fun i _ => by
  by_cases h : i < C.ins.toNat + 0
  · rw [if_pos h, mgP_low (by omega)]; omega
  · rw [if_neg h]
    split <;> omega)
theorem mgV_at {C : Ci} {n k i : Nat} {v : Int} (h : i < C.ins.toNat + k) (hk : k ≤ n) : (mgV C n k v).getD i 0 = mgP C k i := by rw [mgV, mapTo_at _ (by omega), if_pos h]
theorem mgV_length (C : Ci) (n k : Nat) (v : Int) : (mgV C n k v).length = C.ins.toNat + n := mapTo_length _ _
theorem mgV_set (C : Ci) (n k : Nat) (v v' : Int) : (mgV C n k v).set (C.ins.toNat + k) v' = mgV C n k v' := by
  rw [mgV, mapTo_set]
  exact mapTo_eq (fun i _ => by
    by_cases e : i = C.ins.toNat + k
    · rw [if_pos e, if_neg (by omega), if_pos e]
    · rw [if_neg e]
      by_cases h : i < C.ins.toNat + k
      · rw [if_pos h, if_pos h]
      · rw [if_neg h, if_neg h, if_neg e, if_neg e])
theorem mgV_next (C : Ci) (n k : Nat) : mgV C n k (mgP C (k + 1) (C.ins.toNat + k)) = mgV C n (k + 1) ((C.ins.toNat + (k + 1) : Nat) : Int) := mapTo_eq (fun i _ => by
  by_cases h : i < C.ins.toNat + k
  · rw [if_pos h, if_pos (by omega), mgP_next h]
  · rw [if_neg h]
    by_cases e : i = C.ins.toNat + k
    · rw [if_pos e, if_pos (by omega), e]
    · rw [if_neg e, if_neg (by omega)]
      split
      · rename_i h2; rw [h2]
      · rfl)

/-! ## a row of gates that is being filled -/
def padG (gs : List Ga) (n : Nat) : List Ga := gs ++ List.replicate (n - gs.length) g0
theorem padG_length {gs : List Ga} {n : Nat} (h : gs.length ≤ n) : (padG gs n).length = n := by rw [padG, List.length_append, List.length_replicate]; omega
theorem padG_at {gs : List Ga} {n j : Nat} (h : j < gs.length) : (padG gs n).getD j g0 = gs.getD j g0 := by simp [padG, List.getD, List.getElem?_append_left h]
theorem padG_full (gs : List Ga) : padG gs gs.length = gs := by simp [padG]
theorem padG_set {gs : List Ga} {n : Nat} {g : Ga} (h : gs.length < n) : (padG gs n).set gs.length g = padG (gs ++ [g]) n := by
  unfold padG
  rw [List.set_append_right _ _ (Nat.le_refl _), Nat.sub_self]
  obtain ⟨d, hd⟩ : ∃ d, n - gs.length = d + 1 := ⟨n - gs.length - 1, by omega⟩
  rw [hd, List.replicate_succ, List.set_cons_zero, List.append_assoc]
  congr 1
  rw [List.length_append, show n - (gs.length + [g].length) = d by simp; omega]
  rfl
theorem gvals_set {gs : List Ga} {k : Nat} {x y z : Int} (hk : k < gs.length) : gvals (gs.set k (x, y, z)) = (((gvals gs).set (k * 3) (.int .i64 x)).set (k * 3 + 1) (.int .i64 y)).set (k * 3 + 2) (.int .i64 z) := by
  have hl := gvals_length gs
  apply List.ext_getElem?
  intro i
  by_cases hi : i < gs.length * 3
  · obtain ⟨j, r, hj, hr, rfl⟩ : ∃ j r, j < gs.length ∧ r < 3 ∧ i = j * 3 + r := ⟨i / 3, i % 3, by omega, by omega, by omega⟩
    obtain ⟨a0, a1, a2⟩ := gvals_cell (gs.set k (x, y, z)) j (by simpa using hj)
    obtain ⟨b0, b1, b2⟩ := gvals_cell gs j hj
    by_cases e : j = k
    · subst e
      have eg : (gs.set j (x, y, z)).getD j g0 = (x, y, z) := by simp [List.getD, hj]
      rw [eg] at a0 a1 a2
      rcases (by omega : r = 0 ∨ r = 1 ∨ r = 2) with rfl | rfl | rfl
      · rw [Nat.add_zero, a0, List.getElem?_set_ne (by omega), List.getElem?_set_ne (by omega), List.getElem?_set_self (by omega)]
      · rw [a1, List.getElem?_set_ne (by omega), List.getElem?_set_self (by simp; omega)]
      · rw [a2, List.getElem?_set_self (by simp; omega)]
    · have eg : (gs.set k (x, y, z)).getD j g0 = gs.getD j g0 := by simp [List.getD, List.getElem?_set_ne (show k ≠ j by omega)]
      rw [eg] at a0 a1 a2
      rw [List.getElem?_set_ne (by omega), List.getElem?_set_ne (by omega), List.getElem?_set_ne (by omega)]
      rcases (by omega : r = 0 ∨ r = 1 ∨ r = 2) with rfl | rfl | rfl
      · rw [Nat.add_zero, a0, b0]
      · rw [a1, b1]
      · rw [a2, b2]
  · rw [List.getElem?_eq_none (by rw [gvals_length]; simp; omega), List.getElem?_eq_none (by simp; omega)]
theorem OwnG.putG {w : World} {B r n c k : Nat} {gs : List Ga} {x y z : Int} (h : OwnG w B (some ⟨r, 0, none⟩) n c gs) (hk : k < n) :
    OwnG (((w.setCell ⟨r, k * 3, none⟩ (.int .i64 x)).setCell ⟨r, k * 3 + 1, none⟩ (.int .i64 y)).setCell ⟨r, k * 3 + 2, none⟩ (.int .i64 z)) B (some ⟨r, 0, none⟩) n c (gs.set k (x, y, z)) :=
  ⟨by rw [List.length_set, h.1], by rw [gvals_set (by rw [h.1]; exact hk)]; exact (((h.2.stored (k * 3) _).1).stored (k * 3 + 1) _).1.stored (k * 3 + 2) _ |>.1⟩
theorem zeroGates (n : Nat) : (madeCells (Value.agg #[.int .i64 0, .int .i64 0, .int .i64 0]).cells (n * 3)).toList = gvals (List.replicate n g0) := by
  have hl := gvals_length (List.replicate n g0)
  rw [List.length_replicate] at hl
  apply List.ext_getElem?
  intro i
  by_cases hi : i < n * 3
  · obtain ⟨j, r, hj, hr, rfl⟩ : ∃ j r, j < n ∧ r < 3 ∧ i = j * 3 + r := ⟨i / 3, i % 3, by omega, by omega, by omega⟩
    obtain ⟨a0, a1, a2⟩ := gvals_cell (List.replicate n g0) j (by simpa using hj)
    have eg : (List.replicate n g0).getD j g0 = g0 := by simp [List.getD, hj]
    rw [eg] at a0 a1 a2
    rcases (by omega : r = 0 ∨ r = 1 ∨ r = 2) with rfl | rfl | rfl
    · rw [Nat.add_zero, a0]; simp [madeCells, Value.cells, g0]; exact ⟨j * 3, List.getElem?_range (by omega), by simp⟩
    · rw [a1]; simp [madeCells, Value.cells, g0, hi]
    · rw [a2]; simp [madeCells, Value.cells, g0, hi]
  · rw [List.getElem?_eq_none (by simp [size_madeCells]; omega), List.getElem?_eq_none (by omega)]
/-- make([]Gate, n): a row of gates of zeros. -/
theorem makeGates {ops : Array Oper} {rest : List Oper} {o : Oper} {a : Act} {Q : Exit → Act → World → Prop} (w : World) (hg : o.guard = none) (l : Operand) (hop : o.op = Op.makeSlice 27 l l)
    (n : Nat) (hl : a.eval l = .int .i64 (n : Int)) (hn : n ≤ 1048576)
    (hK : ∀ w', OwnG w' w.heap.size (some ⟨w.heap.size, 0, none⟩) n n (List.replicate n g0) → Below w.heap.size w w' → wpList Try.prog ops Q rest (a.put o.dst (.slice (some ⟨w.heap.size, 0, none⟩) n n)) w') :
    wpList Try.prog ops Q (o :: rest) a w := by
  obtain ⟨i0, hi, hz0, hz1, hz2⟩ := info_parts infoGate
  refine wpList_make_full _ hg l l 27 hop w.heap.size 69 i0 (.agg #[.int .i64 0, .int .i64 0, .int .i64 0]) 3 Try.underlying27 hi hz0 hz1 .i64 .i64 _ _ n hl hl rfl rfl (by rw [hz2]; omega) (by simp only [maxLen]; omega) (Nat.le_refl _) ?_
  intro w1 hown hgrow
  rw [zeroGates] at hown
  exact hK w1 ⟨List.length_replicate, hown⟩ (belowOf hgrow)

end Go.Proofs.Yteiibneaihdmbaa
