/- What the model's SolveLinear does: Gauss's elimination in place, column by column; the same answer as the program's. For slices of at most 16777216 elements. -/
import Derived.Test.YtkmnhdnifpglnaaMat7
import Derived.Test.YtkmnhdnifpglnaaFld14
import Derived.StillTailTactics
namespace Go.Proofs.Ytkmnhdnifpglnaa
open Go.RowKit Go.Shelf

theorem swM_eq (N : Nat → List Int) (k r i : Nat) : (if i = k then N r else if i = r then N k else N i) = swM N k r i := by
  unfold swM
  by_cases e1 : i = k <;> by_cases e2 : i = r
  · rw [if_pos e1, if_pos e2, ← e1, ← e2]
  · rw [if_pos e1, if_neg e2, if_pos e1]
  · rw [if_neg e1, if_pos e2, if_pos e2]
  · rw [if_neg e1, if_neg e2, if_neg e2, if_neg e1]
/-- The step, as the model takes it. -/
theorem elimR_eq (p : Int) (n k : Nat) (S R : List Int) : mapTo (fun c => (R.getD c 0 - R.getD k 0 * S.getD c 0) % p) (n + 1) = elimR p n k S R := mapTo_eq fun c _ => by
  refine (Cg.emod (p := p) ?_)
  exact ⟨-S.getD c 0, by grind⟩
/-- Row i when the rows before it are done. -/
def midM (p : Int) (n k r : Nat) (N : Nat → List Int) (i : Nat) : Nat → List Int := fun t => if t = k then solR p n k (swM N k r k) else if t < i then elimR p n k (solR p n k (swM N k r k)) (swM N k r t) else swM N k r t
theorem listStep {L : List Int} {m : Nat} (F : Nat → Int) (h : L.length = m) : L = stepT F (fun c => L.getD c 0) m 0 := by
  rw [stepT_zero, ← h]
  exact list_eq_mapTo L

theorem keepOwn {w w' : World} {S e n : Nat} {v : Value} {xs : List Value} (h : w.ownsRow S e 1 v n xs) (hb : Below w.heap.size w w') : w'.ownsRow S e 1 v n xs := h.kept (grownOf hb none) (by by_cases e : v.ownBlock = none; exact .inl e; exact .inr e)

set_option maxRecDepth 100000 in
set_option maxHeartbeats 2000000 in
theorem spec_SolveLinear (p : Int) (A : Option Addr) (n c : Nat) (M : Nat → List Int) (Y : Option Addr) (q cq : Nat) (ys : List Int) (rs : List Int) (rb : Bool) (w : World) (hp : I64 p) (h : HasM w A n M) (hn : n ≤ 16777216) (hY : Has w Y q ys) (hq : q ≤ 16777216) (hm : m_SolveLinear p n M ys = (rs, rb)) :
    Calls Try.prog 33 #[.int .i64 p, .slice A n c, .slice Y q cq] w fun e w' => ∃ R m' c', e = .returned (.tuple #[.slice R m' c', .bool rb]) ∧ Has w' R m' rs ∧ m' ≤ 16777216 ∧ Below w.heap.size w w' := by
  have HYL := Lib.hid hY.1
  cases hs : sysM p n M ys with
  | false =>
    rw [m_SolveLinear, hs, if_neg (by simp)] at hm
    obtain ⟨rfl, rfl⟩ := Prod.mk.inj hm
    have HS := Lib.hid hs
    clear hs hm
    go_enter Try.func33, Try.ntmps33
    go_wp2_with fail
    refine (fpSystem_any p A n c M Y q cq ys false w hp h hn hY hq HS.out).mono ?_
    rintro e w' ⟨rfl, rfl⟩
    go_wp2_with fail
    go_ret2
    exact ⟨none, 0, 0, rfl, Has.nil_, by omega, Below.refl _ _⟩
  | true =>
    rw [m_SolveLinear, hs, if_pos rfl] at hm
    obtain ⟨hpr, n1, n6, hyl, hlen, hgood⟩ := sysM_yes hs
    obtain ⟨p2, p251⟩ := primeB_yes hpr
    obtain rfl : q = n := by rw [← HYL.out]; exact hyl
    have HS := Lib.hid hs
    have HM := Lib.hid hm
    have HLen := Lib.hid hlen
    have HG := Lib.hid hgood
    obtain ⟨i0', hi', hz0, hz1, hz2⟩ := info_parts infoInt
    obtain ⟨j0', hj', hy0, hy1, hy2⟩ := info_parts infoRow
    clear hs hm hpr hyl hlen hgood
    go_enter Try.func33, Try.ntmps33
    go_wp2_with fail
    refine (fpSystem_any p A q c M Y q cq ys true w hp h hn hY hq HS.out).mono ?_
    rintro e w' ⟨rfl, rfl⟩
    go_wp2
    go_loopw [9, 32] (fun u kv wr => ∃ (k : Nat) (b : Nat → Nat), k ≤ q ∧ kv = .int .i64 k ∧ MatV wr w.heap.size u k (q + 1) b (joinM M ys) ∧ (0 < k → ∃ g cap, u = .slice (some ⟨g, 0, none⟩) k cap) ∧ Below w.heap.size w wr) (fun _ kv _ => q - (intOf kv).toNat)
    case atStart => exact ⟨0, fun _ => 0, Nat.zero_le _, rfl, (MatV.nil_ w w.heap.size (q + 1)).ext (fun i hi => by omega), fun hk => by omega, Below.refl _ _⟩
    case round =>
      obtain ⟨k, b, hk, rfl, hmat, huk, hbk⟩ := hrel
      by_cases hlt : k < q
      · obtain ⟨ad, R0, m0, cR, rfl, hcR, hRow, hm1, hmc, hNil⟩ := (h.below hbk).elem hlt
        obtain rfl : m0 = q := by rw [← hRow.1]; exact HLen.out k hlt
        obtain ⟨ar, rfl⟩ := hRow.some_ (by omega)
        obtain ⟨ay, y, rfl, hcy, HY⟩ := (hY.below hbk).elem hlt
        have hYd : Has wr.drew (some ay) m0 ys := (show Has wr (some ay) m0 ys from hY.below hbk)
        have hd : Has wr.drew (some ar) m0 (M k) := hRow
        have hd2 : Has (wr.alloc (.cells #[.int .i64 y] 3)).drew (some ar) m0 (M k) := (show Has (wr.alloc (.cells #[.int .i64 y] 3)) (some ar) m0 (M k) from hRow.below (belowNew _ _))
        have hcn0 : (wr.alloc (.cells #[.int .i64 y] 3)).drew.cell? ⟨wr.heap.size, 0, none⟩ = some (.int .i64 y) := (cell_one_new wr (.int .i64 y) 3 0 _ rfl)
        have hszn : (wr.alloc (.cells #[.int .i64 y] 3)).drew.heap.size = wr.heap.size + 1 := World.size_alloc _ _
        have hsw := hbk.size
        obtain ⟨⟨vs, ho, hrows⟩, hap, hdf⟩ := hmat
        have hvl : vs.length = k := by simpa using ho.1
        have k0 : (0 : Int) ≤ (k : Int) := by omega
        have k1 : (k : Int) < (m0 : Int) := by omega
        have HO := Lib.hid ho
        have HRows := Lib.hid hrows
        have HAp := Lib.hid hap
        have HDf := Lib.hid hdf
        clear ho hrows hap hdf
        go_wp2_with fail
        go_region_law (first
          | (go_simp; go_at_call 59; refine (l1Own_any ar m0 cR (M k) wr.drew hd (by omega)).mono ?_; rintro e w1 ⟨R, c', rfl, ho1, hb1⟩; obtain ⟨ay2, y2, e2, hcy2, HY2⟩ := (hYd.below hb1).elem hlt; obtain rfl := Option.some.inj e2; obtain rfl : y = y2 := HY.out.trans HY2.out.symm)
          | (go_simp; go_at_call 59; refine (l1Own_any ar m0 cR (M k) (wr.alloc (.cells #[.int .i64 y] 3)).drew hd2 (by omega)).mono ?_; rintro e w1 ⟨R, c', rfl, ho1, hb1⟩; have hcn := cellKept hb1 (by rw [hszn]; omega) hcn0)
          | (refine step_append_lies _ rfl (.tmp 39) (.tmp 44) _ rfl wr.heap.size 3 i0' (.int .i64 0) 1 8 Try.underlying32 hi' hz0 hz1 hz2 rfl (by decide) (.slice R m0 c') m0 (vals (M k)) (by simp [Act.eval]) ((ho1.below (belowNew w1 (.cells #[.int .i64 y] 3))).2.mono (Nat.le_refl _)) ⟨w1.heap.size, 0, none⟩ 1 1 [.int .i64 y] (by simp [Act.eval]) (by simp) (cell_one_new _ _ _) (by simp [Value.oneCell']) (by omega) (by simp only [maxLen]; omega) (by omega) (by have := hb1.size; simp at this ⊢; omega) _ rfl ?_; intro gr capr w2 hrow hgr _ _; have hbz := ((((Below.refl wr.heap.size wr).drew).trans hb1).alloc (o := .cells #[.int .i64 y] 3) hb1.size).grown hgr (by have := hb1.size; simp at this ⊢; omega) (fun k hk => (ho1.2.lt k hk).1); have ho2 := keepOwn HO.out hbz; have hsz2 := hbz.size)
          | (refine step_append_lies _ rfl (.tmp 39) (.tmp 44) _ rfl wr.heap.size 3 i0' (.int .i64 0) 1 8 Try.underlying32 hi' hz0 hz1 hz2 rfl (by decide) (.slice R m0 c') m0 (vals (M k)) (by simp [Act.eval]) (ho1.2.mono (by rw [hszn]; omega)) ⟨wr.heap.size, 0, none⟩ 1 1 [.int .i64 y] (by simp [Act.eval]) (by simp) (by intro j u hj; match j, hj with | 0, hj => simp at hj; subst hj; exact hcn) (by simp [Value.oneCell']) (by omega) (by simp only [maxLen]; omega) (by omega) (by have := hb1.size; simp at this ⊢; omega) _ rfl ?_; intro gr capr w2 hrow hgr _ _; have hbz := (((((Below.refl wr.heap.size wr).alloc (Nat.le_refl _) (.cells #[.int .i64 y] 3)).drew).trans (hb1.mono (by rw [hszn]; omega)))).grown hgr (by have := hb1.size; rw [hszn] at this; omega) (fun k hk => by have := (ho1.2.lt k hk).1; rw [hszn] at this; omega); have ho2 := keepOwn HO.out hbz; have hsz2 := hbz.size)
          | (refine step_append_lies _ rfl (.tmp 37) (.tmp 46) _ rfl w.heap.size 32 j0' (.slice none 0 0) 1 24 Try.underlying42 hj' hy0 hy1 hy2 rfl (by decide) u9 k vs (by simp [Act.eval]) (ho2.alloc _) ⟨w2.heap.size, 0, none⟩ 1 1 [.slice (some ⟨gr, 0, none⟩) (m0 + 1) capr] (by simp [Act.eval]) (by simp) (cell_one_new _ _ _) (by simp [Value.oneCell']) (by omega) (by simp only [maxLen]; omega) (by omega) (by simp; omega) _ rfl ?_; intro g9 cap9 w9 hrow9 hgr9 hg9 _))
        all_goals
          have hgr0 := (hrow.lt gr rfl)
          have hbzA := hbz.trans ((belowNew w2 (.cells #[.slice (some ⟨gr, 0, none⟩) (m0 + 1) capr] 32)).mono hsz2)
          have hul : ∀ x, u9.ownBlock = some x → w.heap.size ≤ x ∧ x < wr.heap.size := fun x hx => HO.out.lt x hx
          have hpush := MatV.push (w := w2.alloc (.cells #[.slice (some ⟨gr, 0, none⟩) (m0 + 1) capr] 32)) (L := joinM M ys k) (x := gr) (c := capr) (b := b) (M := joinM M ys) (fun i hi => by obtain ⟨c9, e1, e2⟩ := HRows.out i hi; exact ⟨c9, e1, keepOwn e2 hbzA⟩) hvl HAp.out HDf.out
            (by
              have h9 := (hrow.mono (base' := w.heap.size) hsw).alloc (.cells #[.slice (some ⟨gr, 0, none⟩) (m0 + 1) capr] 32)
              rw [joinM, vals_append, ← HY.out]
              exact h9)
            (fun i hi e => by obtain ⟨c9, _, e2⟩ := HRows.out i hi; have := (e2.lt (b i) rfl).2; omega) (fun e => by have := (hul gr e).2; omega) hrow9 hgr9 hg9
          have hbz9 : Below w.heap.size w w9 := (hbk.trans (hbzA.mono hsw)).grown hgr9 (by simp; omega) (fun x hx => (hul x hx).1)
          go_wp2
          go_roundw
          case rel => exact ⟨k + 1, _, by omega, by go_num, hpush.ext (fun i _ => by by_cases e : i = k; rw [if_pos e, e]; rw [if_neg e]), fun _ => ⟨g9, cap9, rfl⟩, hbz9⟩
          case measure => simp [intOf]; omega
      · obtain rfl : q = k := by omega
        obtain ⟨g, cap, rfl⟩ := huk (by omega)
        clear huk i0' hi' hz0 hz1 hz2 j0' hj' hy0 hy1 hy2
        go_wp2
        go_loopw [12] (fun kv wr => ∃ (k : Nat) (b : Nat → Nat) (N : Nat → List Int), k ≤ q ∧ kv = .int .i64 k ∧ MatV wr w.heap.size (.slice (some ⟨g, 0, none⟩) q cap) q (q + 1) b N ∧ Hid (gaussM p q (joinM M ys) k = some N) ∧ Hid (GoodM p q N) ∧ Below w.heap.size w wr) (fun kv _ => q - (intOf kv).toNat)
        case atStart => exact ⟨0, b, _, Nat.zero_le _, rfl, hmat, rfl, HG.out, hbk⟩
        clear hmat hbk
        case round =>
          obtain ⟨k, b, N, hk, rfl, hmat, HGa, HGN, hbk⟩ := hrel
          have hgl := hmat.olt
          by_cases hlt : k < q
          · go_wp2
            go_loop [13] (fun av => ∃ r : Nat, k ≤ r ∧ r ≤ q ∧ av = .int .i64 r ∧ Hid (∀ i, i < r → k ≤ i → (N i).getD k 0 = 0)) (fun av => q - (intOf av).toNat)
            case atStart => exact ⟨k, Nat.le_refl _, hk, rfl, fun i h1 h2 => by omega⟩
            case round =>
              obtain ⟨r, hkr, hr, rfl, HZ⟩ := hrel
              by_cases hrq : r < q
              · obtain ⟨cr, hcr⟩ := hmat.cell hrq
                have hce := hmat.elem hrq (j := k) (by omega)
                obtain ⟨z, hz⟩ : ∃ z, (N r).getD k 0 = z := ⟨_, rfl⟩
                obtain ⟨z0, z1⟩ : 0 ≤ z ∧ z < p := by rw [← hz]; exact (HGN.out r hrq).2 k
                rw [hz] at hce
                have HZV := Lib.hid hz
                clear hz
                have kk0 : (0 : Int) ≤ (k : Int) := by omega
                have kk1 : (k : Int) < (q : Int) + 1 := by omega
                by_cases hz0 : z = 0
                · subst hz0
                  go_wp2
                  go_round
                  case rel =>
                    refine ⟨r + 1, by omega, by omega, by go_num, fun i h1 h2 => ?_⟩
                    by_cases e : i = r
                    · rw [e]; exact HZV.out
                    · exact HZ.out i (by omega) h2
                  case measure => simp [intOf]; omega
                · have hz' : (z == 0) = false := by simpa using hz0
                  have hrne : ((r : Int) == (q : Int)) = false := by simp; omega
                  have HPV : Hid (pivot N k q = r) := pivot_eq hkr hr HZ.out (fun _ => by rw [HZV.out]; exact hz0)
                  obtain ⟨ck, hck⟩ := hmat.cell hlt
                  have hfr := hmat.free r
                  have hfk := hmat.free k
                  obtain ⟨u2, hu2⟩ : ∃ u2, (wr.setCell ⟨g, r, none⟩ (.slice (some ⟨b k, 0, none⟩) (q + 1) ck)).cell? ⟨g, k, none⟩ = some u2 := by
                    by_cases e : r = k
                    · subst e
                      exact ⟨_, World.cell?_setCell_same' _ _ _ (by rw [hcr]; rfl)⟩
                    · exact ⟨_, (World.cell?_setCell_other _ _ _ _ (by simp)).trans hck⟩
                  have hswap := (hmat.swap hlt hrq hck hcr).ext (fun i _ => swM_eq N k r i)
                  obtain ⟨b1, hb1⟩ : ∃ b1, (fun i => if i = k then b r else if i = r then b k else b i) = b1 := ⟨_, rfl⟩
                  rw [hb1] at hswap
                  have hbk1 : b r = b1 k := by rw [← hb1]; simp
                  have hswk : swM N k r k = N r := by rw [← swM_eq, if_pos rfl]
                  have hcz5 := hswap.elem hlt (j := k) (by omega)
                  rw [hswk, HZV.out, ← hbk1] at hcz5
                  have hbs : Below w.heap.size w ((wr.setCell ⟨g, r, none⟩ (.slice (some ⟨b k, 0, none⟩) (q + 1) ck)).setCell ⟨g, k, none⟩ (.slice (some ⟨b r, 0, none⟩) (q + 1) cr)) := (hbk.setCell (by show w.heap.size ≤ g; omega) _).setCell (by show w.heap.size ≤ g; omega) _
                  obtain ⟨sc, hsc⟩ : ∃ sc, powM p z (p.toNat - 2) = sc := ⟨_, rfl⟩
                  obtain ⟨sc0, sc1⟩ : 0 ≤ sc ∧ sc < p := by rw [← hsc]; exact powM_in (by omega)
                  have HSC := Lib.hid hsc
                  have HSWK := Lib.hid hswk
                  have HBK := Lib.hid hbk1
                  have HSw := Lib.hid (HGN.out.sw hlt hrq)
                  clear hsc hb1 hswk hz0 hbk1
                  go_wp2_with fail
                  refine (specInv_any p z sc _ p2 p251 z0 z1 HSC.out).mono ?_
                  rintro e w' ⟨rfl, rfl⟩
                  obtain ⟨w5, hw5⟩ : ∃ w5, (wr.setCell ⟨g, r, none⟩ (.slice (some ⟨b k, 0, none⟩) (q + 1) ck)).setCell ⟨g, k, none⟩ (.slice (some ⟨b r, 0, none⟩) (q + 1) cr) = w5 := ⟨_, rfl⟩
                  rw [hw5] at hswap hbs ⊢
                  clear hw5 hu2 hcz5 hfr hfk hck hcr hce hmat hbk hz'
                  rw [HBK.out]
                  have hrowk : (swM N k r k).length = q + 1 := (HSw.out k hlt).1
                  have hst : MatV w5 w.heap.size (.slice (some ⟨g, 0, none⟩) q cap) q (q + 1) b1 (fun t => if t = k then stepT (fun c => (swM N k r k).getD c 0 * sc % p) (fun c => (swM N k r k).getD c 0) (q + 1) 0 else swM N k r t) := hswap.ext fun i _ => by
                    by_cases e : i = k
                    · rw [if_pos e, e]; exact listStep _ hrowk
                    · rw [if_neg e]
                  clear hswap hrowk
                  go_wp2
                  go_loopw [96] (fun jv w6 => ∃ j : Nat, j ≤ q + 1 ∧ jv = .int .i64 j ∧ MatV w6 w.heap.size (.slice (some ⟨g, 0, none⟩) q cap) q (q + 1) b1 (fun t => if t = k then stepT (fun c => (swM N k r k).getD c 0 * sc % p) (fun c => (swM N k r k).getD c 0) (q + 1) j else swM N k r t) ∧ Below w.heap.size w w6) (fun jv _ => q + 1 - (intOf jv).toNat)
                  case atStart => exact ⟨0, Nat.zero_le _, rfl, hst, hbs⟩
                  clear hst hbs
                  case round =>
                    obtain ⟨j, hj, rfl, hm6, hb6⟩ := hrel
                    by_cases hlj : j < q + 1
                    · have hcj := hm6.elem hlt hlj
                      rw [if_pos rfl, stepT_at hlj] at hcj
                      obtain ⟨t, ht⟩ : ∃ t, (swM N k r k).getD j 0 = t := ⟨_, rfl⟩
                      obtain ⟨t0, t1⟩ : 0 ≤ t ∧ t < p := by rw [← ht]; exact (HSw.out k hlt).2 j
                      rw [ht] at hcj
                      have HT := Lib.hid ht
                      clear ht
                      obtain ⟨m0, m1⟩ := mulFits p251 t0 t1 sc0 sc1
                      have tm := tmodPos (a := t * sc) (b := p) m0
                      have hfj := hm6.efree hlt j
                      have hbl := hm6.lt hlt
                      go_wp2
                      go_roundw
                      case rel =>
                        refine ⟨j + 1, by omega, by go_num, ?_, hb6.setCell (by show w.heap.size ≤ b1 k; omega) _⟩
                        refine (hm6.put hlt j (t * sc % p)).ext fun i _ => ?_
                        by_cases e : i = k
                        · rw [if_pos e, if_pos e, if_pos rfl, ← stepT_succ, HT.out]
                        · rw [if_neg e, if_neg e, if_neg e]
                      case measure => simp [intOf]; omega
                    · obtain rfl : j = q + 1 := by omega
                      have hsol : stepT (fun c => (swM N k r k).getD c 0 * sc % p) (fun c => (swM N k r k).getD c 0) (q + 1) (q + 1) = solR p q k (swM N k r k) := by
                        rw [stepT_end, solR, HSWK.out, HZV.out, HSC.out]
                      rw [hsol] at hm6
                      have hmid : MatV wr w.heap.size (.slice (some ⟨g, 0, none⟩) q cap) q (q + 1) b1 (midM p q k r N 0) := hm6.ext fun i _ => by
                        show _ = (if i = k then solR p q k (swM N k r k) else if i < 0 then elimR p q k (solR p q k (swM N k r k)) (swM N k r i) else swM N k r i)
                        by_cases e : i = k
                        · rw [if_pos e, if_pos e]
                        · rw [if_neg e, if_neg e, if_neg (by omega)]
                      clear hm6 hsol
                      go_wp2
                      go_loopw [113] (fun iv w7 => ∃ i : Nat, i ≤ q ∧ iv = .int .i64 i ∧ MatV w7 w.heap.size (.slice (some ⟨g, 0, none⟩) q cap) q (q + 1) b1 (midM p q k r N i) ∧ Below w.heap.size w w7) (fun iv _ => q - (intOf iv).toNat)
                      case atStart => exact ⟨0, Nat.zero_le _, rfl, hmid, hb6⟩
                      clear hmid hb6
                      case round =>
                        obtain ⟨i, hi, rfl, hm7, hb7⟩ := hrel
                        by_cases hli : i < q
                        · obtain ⟨ci, hci⟩ := hm7.cell hli
                          have hcf := hm7.elem hli (j := k) (by omega)
                          obtain ⟨f, hf⟩ : ∃ f, (midM p q k r N i i).getD k 0 = f := ⟨_, rfl⟩
                          rw [hf] at hcf
                          by_cases hik : i = k
                          · subst hik
                            clear hf
                            have hm8 : MatV wr w.heap.size (.slice (some ⟨g, 0, none⟩) q cap) q (q + 1) b1 (midM p q i r N (i + 1)) := hm7.ext fun t _ => by
                              unfold midM
                              by_cases e : t = i
                              · rw [if_pos e, if_pos e]
                              · rw [if_neg e, if_neg e]
                                by_cases e2 : t < i
                                · rw [if_pos e2, if_pos (by omega)]
                                · rw [if_neg e2, if_neg (by omega)]
                            go_wp2
                            go_loop [19] (fun jv => jv = .int .i64 0) (fun _ => 0)
                            case atStart => rfl
                            case round =>
                              obtain rfl := hrel
                              go_wp2
                              go_roundw
                              case rel => exact ⟨i + 1, by omega, by go_num, hm8, hb7⟩
                              case measure => simp [intOf]; omega
                          · have hik' : ((i : Int) != (k : Int)) = true := by simp; omega
                            have hmi : midM p q k r N i i = swM N k r i := by unfold midM; rw [if_neg hik, if_neg (by omega)]
                            have hmk : midM p q k r N i k = solR p q k (swM N k r k) := by unfold midM; rw [if_pos rfl]
                            obtain ⟨f0, f1⟩ : 0 ≤ f ∧ f < p := by rw [← hf, hmi]; exact (HSw.out i hli).2 k
                            rw [hmi] at hf
                            have HF := Lib.hid hf
                            have HMK := Lib.hid hmk
                            have hrowi : (swM N k r i).length = q + 1 := (HSw.out i hli).1
                            have hst : MatV wr w.heap.size (.slice (some ⟨g, 0, none⟩) q cap) q (q + 1) b1 (fun t => if t = i then stepT (fun c => ((swM N k r i).getD c 0 - (swM N k r i).getD k 0 * (solR p q k (swM N k r k)).getD c 0) % p) (fun c => (swM N k r i).getD c 0) (q + 1) 0 else midM p q k r N i t) := hm7.ext fun t _ => by
                              by_cases e : t = i
                              · rw [if_pos e, e, hmi]; exact listStep _ hrowi
                              · rw [if_neg e]
                            clear hf hmi hmk hm7 hrowi
                            go_wp2
                            go_loopw [19] (fun jv w8 => ∃ j : Nat, j ≤ q + 1 ∧ jv = .int .i64 j ∧ MatV w8 w.heap.size (.slice (some ⟨g, 0, none⟩) q cap) q (q + 1) b1 (fun t => if t = i then stepT (fun c => ((swM N k r i).getD c 0 - (swM N k r i).getD k 0 * (solR p q k (swM N k r k)).getD c 0) % p) (fun c => (swM N k r i).getD c 0) (q + 1) j else midM p q k r N i t) ∧ Below w.heap.size w w8) (fun jv _ => q + 1 - (intOf jv).toNat)
                            case atStart => exact ⟨0, Nat.zero_le _, rfl, hst, hb7⟩
                            clear hst hb7 hci hcf
                            case round =>
                              obtain ⟨j, hj, rfl, hm8, hb8⟩ := hrel
                              by_cases hlj : j < q + 1
                              · obtain ⟨ci, hci⟩ := hm8.cell hli
                                have hct := hm8.elem hli hlj
                                rw [if_pos rfl, stepT_at hlj] at hct
                                have hcs := hm8.elem hlt hlj
                                rw [if_neg (fun e => hik e.symm), HMK.out] at hcs
                                obtain ⟨t, ht⟩ : ∃ t, (swM N k r i).getD j 0 = t := ⟨_, rfl⟩
                                obtain ⟨t0, t1⟩ : 0 ≤ t ∧ t < p := by rw [← ht]; exact (HSw.out i hli).2 j
                                rw [ht] at hct
                                obtain ⟨s, hs⟩ : ∃ s, (solR p q k (swM N k r k)).getD j 0 = s := ⟨_, rfl⟩
                                obtain ⟨s0, s1⟩ : 0 ≤ s ∧ s < p := by rw [← hs]; exact solR_in p2 j
                                rw [hs] at hcs
                                obtain ⟨y, hy⟩ : ∃ y, (t - f * s) % p = y := ⟨_, rfl⟩
                                have HT := Lib.hid ht
                                have HSV := Lib.hid hs
                                have HYV := Lib.hid hy
                                obtain ⟨m0, m1⟩ := mulFits p251 f0 f1 s0 s1
                                have hw1 : IntKind.i64.wrap (f * s) = f * s := wrapIn (by omega) (by omega)
                                have hw2 : IntKind.i64.wrap (t - f * s) = t - f * s := wrapIn (by omega) (by omega)
                                have hfj := hm8.efree hli j
                                have hbl := hm8.lt hli
                                have i0 : (0 : Int) ≤ (i : Int) := by omega
                                have i1 : (i : Int) < (q : Int) := by omega
                                have j0 : (0 : Int) ≤ (j : Int) := by omega
                                have j1 : (j : Int) < (q : Int) + 1 := by omega
                                clear ht hs hy
                                have hcall : Calls Try.prog 53 #[.int .i64 (t - f * s), .int .i64 p] wr.drew fun e w' => e = .returned (.int .i64 y) ∧ w' = wr.drew :=
                                  (mod_any (t - f * s) p y _ (by omega) (by omega) (by omega) (by omega) HYV.out).mono fun _ _ ⟨he, hw⟩ => ⟨he, hw.symm⟩
                                go_wp2
                                go_still_tail 22, (by kernel_rfl)
                                still_call hcall
                                repeat still_step
                                refine wpStill_nil ?_
                                change wpList _ _ _ _ _ wr.drew
                                have hfjd : wr.drew.frozen? ⟨b1 i, j, none⟩ = false := hfj
                                have hctd : wr.drew.cell? ⟨b1 i, j, none⟩ = some (.int .i64 t) := hct
                                clear hcall
                                go_wp2
                                go_roundw
                                case rel =>
                                  have h9 := (hm8.put hli j y).ext (M' := fun t' => if t' = i then stepT (fun c => ((swM N k r i).getD c 0 - (swM N k r i).getD k 0 * (solR p q k (swM N k r k)).getD c 0) % p) (fun c => (swM N k r i).getD c 0) (q + 1) (j + 1) else midM p q k r N i t') (fun t' _ => by
                                    by_cases e : t' = i
                                    · rw [if_pos e, if_pos e, if_pos rfl, ← stepT_succ, HT.out, HF.out, HSV.out, HYV.out]
                                    · rw [if_neg e, if_neg e, if_neg e])
                                  exact ⟨.int .i64 ((j : Int) + 1), _, _, _, _, _, _, _, _, _, _, _, _, _, _, _, _, _, _, _, _, _, _, _, _, _, _, _, _, _, _, _, _, ⟨j + 1, by omega, by go_num, h9, (hb8.setCell (p := ⟨b1 i, j, none⟩) (by show w.heap.size ≤ b1 i; omega) _).drew⟩, rfl⟩
                                case measure => simp [intOf]; omega
                              · obtain rfl : j = q + 1 := by omega
                                have hend : stepT (fun c => ((swM N k r i).getD c 0 - (swM N k r i).getD k 0 * (solR p q k (swM N k r k)).getD c 0) % p) (fun c => (swM N k r i).getD c 0) (q + 1) (q + 1) = elimR p q k (solR p q k (swM N k r k)) (swM N k r i) := by
                                  rw [stepT_end, elimR_eq]
                                rw [hend] at hm8
                                have hm9 : MatV wr w.heap.size (.slice (some ⟨g, 0, none⟩) q cap) q (q + 1) b1 (midM p q k r N (i + 1)) := hm8.ext fun t _ => by
                                  unfold midM
                                  by_cases e : t = i
                                  · rw [if_pos e, e, if_neg hik, if_pos (by omega)]
                                  · rw [if_neg e]
                                    by_cases e1 : t = k
                                    · rw [if_pos e1, if_pos e1]
                                    · rw [if_neg e1, if_neg e1]
                                      by_cases e2 : t < i
                                      · rw [if_pos e2, if_pos (by omega)]
                                      · rw [if_neg e2, if_neg (by omega)]
                                clear hend hm8
                                go_wp2
                                go_roundw
                                case rel => exact ⟨i + 1, by omega, by go_num, hm9, hb8⟩
                                case measure => simp [intOf]; omega
                        · obtain rfl : i = q := by omega
                          have hnx : MatV wr w.heap.size (.slice (some ⟨g, 0, none⟩) i cap) i (i + 1) b1 (nextM p i N k r) := hm7.ext fun t ht => by
                            unfold midM nextM
                            by_cases e : t = k
                            · rw [if_pos e, if_pos e]
                            · rw [if_neg e, if_neg e, if_pos ht]
                          clear hm7
                          go_wp2
                          go_roundw
                          case rel =>
                            refine ⟨k + 1, b1, nextM p i N k r, by omega, by go_num, hnx, ?_, GoodM.next p2, hb7⟩
                            show gaussM p i (joinM M ys) (k + 1) = _
                            rw [gaussM, HGa.out]
                            show (if pivot N k i = i then none else some (nextM p i N k (pivot N k i))) = _
                            rw [HPV.out, if_neg (by omega)]
                          case measure => simp [intOf]; omega
              · obtain rfl : r = q := by omega
                go_wp2
                go_ret2
                have hnone : gaussM p r (joinM M ys) r = none := by
                  have h0 : gaussM p r (joinM M ys) (k + 1) = none := by
                    rw [gaussM, HGa.out]
                    exact if_pos (pivot_eq hkr (Nat.le_refl _) HZ.out (fun h => by omega))
                  have := gaussM_none h0 (r - (k + 1))
                  rwa [show k + 1 + (r - (k + 1)) = r by omega] at this
                have e := HM.out
                rw [solM, hnone] at e
                obtain ⟨rfl, rfl⟩ := Prod.mk.inj e
                exact ⟨none, 0, ⟨0, rfl⟩, Has.nil_, by omega, hbk⟩
          · obtain rfl : q = k := by omega
            obtain ⟨wm, hwm⟩ : ∃ wm, wr = wm := ⟨_, rfl⟩
            rw [hwm] at hmat hbk ⊢
            clear hwm
            go_wp2
            go_loopw [20, 158] (fun u iv w7 => ∃ i : Nat, i ≤ q ∧ iv = .int .i64 i ∧ w7.ownsRow wm.heap.size 3 1 u i (vals (mapTo (fun i => (N i).getD q 0) i)) ∧ Below wm.heap.size wm w7) (fun _ iv _ => q - (intOf iv).toNat)
            case atStart => exact ⟨0, Nat.zero_le _, rfl, World.ownsRow_nil _ _ _ _, Below.refl _ _⟩
            case round =>
              obtain ⟨i, hi, rfl, hown, hb7⟩ := hrel
              have hsz := hb7.size
              by_cases hli : i < q
              · have hmi := hmat.below hb7
                obtain ⟨ci, hci⟩ := hmi.cell hli
                have hce := hmi.elem hli (j := q) (by omega)
                obtain ⟨z, hz⟩ : ∃ z, (N i).getD q 0 = z := ⟨_, rfl⟩
                rw [hz] at hce
                have HZV := Lib.hid hz
                have q0 : (0 : Int) ≤ (q : Int) := by omega
                have q1 : (q : Int) < (q : Int) + 1 := by omega
                clear hz
                go_wp2_with (at_builtin; refine appendInt wr rfl (.tmp 162) (.tmp 167) rfl _ wm.heap.size _ i _ rfl rfl hown (by omega) hsz ?_; intro v' w1 hown1 hb1)
                go_roundw
                case rel =>
                  refine ⟨i + 1, by omega, by go_num, ?_, hb7.trans hb1⟩
                  rw [mapTo_succ, HZV.out]
                  exact hown1
                case measure => simp [intOf]; omega
              · obtain rfl : q = i := by omega
                go_wp2
                go_ret2
                have e := HM.out
                rw [solM, HGa.out] at e
                obtain ⟨h5, rfl⟩ := Prod.mk.inj e
                obtain ⟨R, c', rfl, ho⟩ := ownOf hown
                rw [h5] at ho
                exact ⟨R, q, c', rfl, ho.has, hn, hbk.trans (hb7.mono hbk.size)⟩

end Go.Proofs.Ytkmnhdnifpglnaa
