/- The program's moved circuits: the gates and the outs of a circuit, each wire at its new place; the places are given by whatever function value. For valid circuits. -/
import Derived.Test.YteiibneaihdmbaaCirIA
import Derived.Test.YteiibneaihdmbaaCirM6
import Derived.Shelf.Abstract
namespace Go.Proofs.Yteiibneaihdmbaa
open Go.RowKit Go.Shelf
set_option maxRecDepth 100000

/-- The function value g with the captured values lb gives the place of each wire below N, in whatever world that has kept what lay in w. -/
def PlaceAt (g : Nat) (lb : Array Value) (pl : Nat → Int) (N : Nat) (w : World) : Prop :=
  ∀ (W : World) (i : Nat), i < N → Below w.heap.size w W → Calls Try.prog g (#[.int .i64 (i : Int)] ++ lb) W fun e w' => e = .returned (.int .i64 (pl i)) ∧ Below W.heap.size W w'
theorem PlaceAt.below {g : Nat} {lb : Array Value} {pl : Nat → Int} {N : Nat} {w w' : World} (h : PlaceAt g lb pl N w) (hb : Below w.heap.size w w') : PlaceAt g lb pl N w' :=
  fun W i hi hb' => h W i hi (hb.trans (hb'.mono hb.size))

/-- A gate, each wire at its new place. -/
def mvG (pl : Nat → Int) (g : Ga) : Ga := if g.1 = 0 ∨ g.1 = 1 then (g.1, pl g.2.1.toNat, pl g.2.2.toNat) else if g.1 = 2 then (g.1, pl g.2.1.toNat, 0) else g

theorem Blk.three {w : World} {g : Nat} {a b c : Value} {t : TypeId} (h : Blk w g #[a, b, c] t) : w.cell? ⟨g, 0, none⟩ = some a ∧ w.cell? ⟨g, 1, none⟩ = some b ∧ w.cell? ⟨g, 2, none⟩ = some c :=
  ⟨h.cell (i := 0) rfl, h.cell (i := 1) rfl, h.cell (i := 2) rfl⟩

set_option maxHeartbeats 4000000 in
theorem movedGate_any (g : Nat) (lb : Array Value) (eg : ∀ args w, (callFunc g args).run Try.prog w = .ok (.enter g args) w) (pl : Nat → Int) (N : Nat) (x y z x' y' z' : Int) (w : World) (hp : PlaceAt g lb pl N w)
    (hg : gateOk (N : Int) (x, y, z) = true) (hm : mvG pl (x, y, z) = (x', y', z')) :
    Calls Try.prog 68 #[.agg #[.int .i64 x, .int .i64 y, .int .i64 z], .func (.func g) #[] lb] w fun e w' => e = .returned (.agg #[.int .i64 x', .int .i64 y', .int .i64 z']) ∧ Below w.heap.size w w' := by
  have b1 := belowNew w (.cells #[.int .i64 x, .int .i64 y, .int .i64 z] 69)
  have p1 := Blk.new w #[.int .i64 x, .int .i64 y, .int .i64 z] 69
  obtain ⟨W1, hW1⟩ : ∃ W, W = w.alloc (.cells #[.int .i64 x, .int .i64 y, .int .i64 z] 69) := ⟨_, rfl⟩
  have s1 : W1.heap.size = w.heap.size + 1 := by rw [hW1]; simp
  rw [← hW1] at b1 p1
  have b2 := belowNew W1 (.cells #[.int .i64 0, .int .i64 0, .int .i64 0] 69)
  have r2 := Blk.newAt (k := w.heap.size + 1) W1 #[.int .i64 0, .int .i64 0, .int .i64 0] 69 s1.symm
  have p2 := p1.below' b2
  obtain ⟨W2, hW2⟩ : ∃ W, W = W1.alloc (.cells #[.int .i64 0, .int .i64 0, .int .i64 0] 69) := ⟨_, rfl⟩
  rw [← hW2] at b2 r2 p2
  have B2 := b1.trans (b2.mono b1.size)
  have HP : Hid (∀ (W : World) (i : Nat), i < N → Below W2.heap.size W2 W → Calls Try.prog g (#[.int .i64 (i : Int)] ++ lb) W fun e w' => e = .returned (.int .i64 (pl i)) ∧ Below W.heap.size W w') := hp.below B2
  have D : Below W2.heap.size W2 W2.drew := (Below.refl _ W2).drew
  have hK : Hid (∀ W', Below W2.heap.size W2 W' → W'.cell? ⟨w.heap.size, 0, none⟩ = some (.int .i64 x) ∧ W'.cell? ⟨w.heap.size, 1, none⟩ = some (.int .i64 y) ∧ W'.cell? ⟨w.heap.size, 2, none⟩ = some (.int .i64 z)) := fun W' hb => (p2.below' hb).three
  have hK2 : Hid (∀ W' u v t, Below W2.heap.size W2 W' → (((W'.setCell ⟨w.heap.size + 1, 0, none⟩ u).setCell ⟨w.heap.size + 1, 1, none⟩ v).setCell ⟨w.heap.size + 1, 2, none⟩ t).cell? ⟨w.heap.size, 0, none⟩ = some (.int .i64 x) ∧ (((W'.setCell ⟨w.heap.size + 1, 0, none⟩ u).setCell ⟨w.heap.size + 1, 1, none⟩ v).setCell ⟨w.heap.size + 1, 2, none⟩ t).cell? ⟨w.heap.size, 1, none⟩ = some (.int .i64 y) ∧ (((W'.setCell ⟨w.heap.size + 1, 0, none⟩ u).setCell ⟨w.heap.size + 1, 1, none⟩ v).setCell ⟨w.heap.size + 1, 2, none⟩ t).cell? ⟨w.heap.size, 2, none⟩ = some (.int .i64 z)) :=
    fun W' u v t hb => ((((p2.below' hb).other (by omega) 0 u).other (by omega) 1 v).other (by omega) 2 t).three
  have HM := Lib.hid hm
  have HS := Lib.hid s1
  clear hp p1 hm b1 b2 s1
  rcases gateOk_yes hg with ⟨hx01, hy, hz⟩ | ⟨rfl, hy, rfl⟩ | ⟨rfl, rfl, rfl⟩
  · obtain ⟨jy, rfl⟩ : ∃ j : Nat, y = (j : Int) := ⟨y.toNat, by omega⟩
    obtain ⟨jz, rfl⟩ : ∃ j : Nat, z = (j : Int) := ⟨z.toNat, by omega⟩
    have ly : jy < N := by omega
    have lz : jz < N := by omega
    have e := HM.out
    rw [mvG, if_pos hx01] at e
    obtain ⟨e1, e0⟩ := Prod.mk.inj e
    obtain ⟨e2, e3⟩ := Prod.mk.inj e0
    simp only [Int.toNat_natCast] at e1 e2 e3
    have HY := Lib.hid e2
    have HZ := Lib.hid e3
    subst e1
    clear hg hy hz HM e e0 e2 e3
    rcases hx01 with rfl | rfl
    · go_enter Try.func68, Try.ntmps68
      go_wp2_with fail
      rw [← hW1, ← hW2]
      clear hW1 hW2 p2
      go_region_held3 (fun w' => w'.cell? ⟨w.heap.size, 0, none⟩ = some (.int .i64 0) ∧ w'.cell? ⟨w.heap.size, 1, none⟩ = some (.int .i64 (jy : Int)) ∧ w'.cell? ⟨w.heap.size, 2, none⟩ = some (.int .i64 (jz : Int))) (first | exact hK.out _ D | exact hK.out _ Bq | exact hK.out _ Br | exact hK2.out _ _ _ _ Br | go_keep) (first
            | (go_at_fn g; ((with_reducible refine (HP.out w3 jz lz Bq).mono ?_); rintro e w4 ⟨rfl, b4⟩; have Br := Bq.trans (b4.mono Bq.size); have r4 := r2.below' Br; obtain ⟨c0, c1, c2⟩ := r4.three; have f0 := r4.free 0; have f1 := r4.free 1; have f2 := r4.free 2))
            | (go_at_fn g; ((with_reducible refine (HP.out W2.drew jy ly D).mono ?_); rintro e w3 ⟨rfl, b3⟩; have Bq := D.trans (b3.mono D.size))))
      have r5 := ((r4.set 0 (.int .i64 0)).set 1 (.int .i64 (pl jy))).set 2 (.int .i64 (pl jz))
      obtain ⟨e0, e1, e2⟩ := (show Blk _ (w.heap.size + 1) #[.int .i64 0, .int .i64 (pl jy), .int .i64 (pl jz)] 69 from r5).three
      have B5 := B2.trans (Br.mono B2.size)
      have B6 := ((B5.setCell (p := ⟨w.heap.size + 1, 0, none⟩) (Nat.le_succ _) (.int .i64 0)).setCell (p := ⟨w.heap.size + 1, 1, none⟩) (Nat.le_succ _) (.int .i64 (pl jy))).setCell (p := ⟨w.heap.size + 1, 2, none⟩) (Nat.le_succ _) (.int .i64 (pl jz))
      clear c0 c1 c2 f0 f1 f2 r4 r5
      go_wp2_with fail
      refine bodyPost_ret (v := .agg #[.int .i64 0, .int .i64 (pl jy), .int .i64 (pl jz)]) (by simp [results, Try.results68, go_sem, e0, e1, e2]) rfl ⟨by rw [HY.out, HZ.out], B6⟩
    · go_enter Try.func68, Try.ntmps68
      go_wp2_with fail
      rw [← hW1, ← hW2]
      clear hW1 hW2 p2
      go_region_held3 (fun w' => w'.cell? ⟨w.heap.size, 0, none⟩ = some (.int .i64 1) ∧ w'.cell? ⟨w.heap.size, 1, none⟩ = some (.int .i64 (jy : Int)) ∧ w'.cell? ⟨w.heap.size, 2, none⟩ = some (.int .i64 (jz : Int))) (first | exact hK.out _ D | exact hK.out _ Bq | exact hK.out _ Br | exact hK2.out _ _ _ _ Br | go_keep) (first
            | (go_at_fn g; ((with_reducible refine (HP.out w3 jz lz Bq).mono ?_); rintro e w4 ⟨rfl, b4⟩; have Br := Bq.trans (b4.mono Bq.size); have r4 := r2.below' Br; obtain ⟨c0, c1, c2⟩ := r4.three; have f0 := r4.free 0; have f1 := r4.free 1; have f2 := r4.free 2))
            | (go_at_fn g; ((with_reducible refine (HP.out W2.drew jy ly D).mono ?_); rintro e w3 ⟨rfl, b3⟩; have Bq := D.trans (b3.mono D.size))))
      have r5 := ((r4.set 0 (.int .i64 1)).set 1 (.int .i64 (pl jy))).set 2 (.int .i64 (pl jz))
      obtain ⟨e0, e1, e2⟩ := (show Blk _ (w.heap.size + 1) #[.int .i64 1, .int .i64 (pl jy), .int .i64 (pl jz)] 69 from r5).three
      have B5 := B2.trans (Br.mono B2.size)
      have B6 := ((B5.setCell (p := ⟨w.heap.size + 1, 0, none⟩) (Nat.le_succ _) (.int .i64 1)).setCell (p := ⟨w.heap.size + 1, 1, none⟩) (Nat.le_succ _) (.int .i64 (pl jy))).setCell (p := ⟨w.heap.size + 1, 2, none⟩) (Nat.le_succ _) (.int .i64 (pl jz))
      clear c0 c1 c2 f0 f1 f2 r4 r5
      go_wp2_with fail
      refine bodyPost_ret (v := .agg #[.int .i64 1, .int .i64 (pl jy), .int .i64 (pl jz)]) (by simp [results, Try.results68, go_sem, e0, e1, e2]) rfl ⟨by rw [HY.out, HZ.out], B6⟩
  · obtain ⟨jy, rfl⟩ : ∃ j : Nat, y = (j : Int) := ⟨y.toNat, by omega⟩
    have ly : jy < N := by omega
    have e := HM.out
    rw [mvG, if_neg (by omega), if_pos rfl] at e
    obtain ⟨e1, e0⟩ := Prod.mk.inj e
    obtain ⟨e2, e3⟩ := Prod.mk.inj e0
    simp only [Int.toNat_natCast] at e1 e2 e3
    have HY := Lib.hid e2
    subst e1 e3
    clear hg hy HM e e0 e2
    go_enter Try.func68, Try.ntmps68
    go_wp2_with fail
    rw [← hW1, ← hW2]
    clear hW1 hW2 p2
    go_region_held3 (fun w' => w'.cell? ⟨w.heap.size, 0, none⟩ = some (.int .i64 2) ∧ w'.cell? ⟨w.heap.size, 1, none⟩ = some (.int .i64 (jy : Int)) ∧ w'.cell? ⟨w.heap.size, 2, none⟩ = some (.int .i64 0)) (first | exact hK.out _ D | exact hK.out _ Bq | exact hK2.out _ _ _ _ Bq | go_keep) (first
          | (go_at_fn g; ((with_reducible refine (HP.out W2.drew jy ly D).mono ?_); rintro e w3 ⟨rfl, b3⟩; have Bq := D.trans (b3.mono D.size); have r4 := r2.below' Bq; obtain ⟨c0, c1, c2⟩ := r4.three; have f0 := r4.free 0; have f1 := r4.free 1; have f2 := r4.free 2)))
    have r5 := ((r4.set 0 (.int .i64 2)).set 1 (.int .i64 (pl jy))).set 2 (.int .i64 0)
    obtain ⟨e0, e1, e2⟩ := (show Blk _ (w.heap.size + 1) #[.int .i64 2, .int .i64 (pl jy), .int .i64 0] 69 from r5).three
    have B5 := B2.trans (Bq.mono B2.size)
    have B6 := ((B5.setCell (p := ⟨w.heap.size + 1, 0, none⟩) (Nat.le_succ _) (.int .i64 2)).setCell (p := ⟨w.heap.size + 1, 1, none⟩) (Nat.le_succ _) (.int .i64 (pl jy))).setCell (p := ⟨w.heap.size + 1, 2, none⟩) (Nat.le_succ _) (.int .i64 0)
    clear c0 c1 c2 f0 f1 f2 r4 r5
    go_wp2_with fail
    refine bodyPost_ret (v := .agg #[.int .i64 2, .int .i64 (pl jy), .int .i64 0]) (by simp [results, Try.results68, go_sem, e0, e1, e2]) rfl ⟨by rw [HY.out], B6⟩
  · have e := HM.out
    rw [mvG, if_neg (by omega), if_neg (by omega)] at e
    obtain ⟨e1, e0⟩ := Prod.mk.inj e
    obtain ⟨e2, e3⟩ := Prod.mk.inj e0
    subst e1 e2 e3
    obtain ⟨c0, c1, c2⟩ := r2.three
    have f0 := r2.free 0
    have f1 := r2.free 1
    have f2 := r2.free 2
    obtain ⟨d0, d1, d2⟩ := p2.three
    clear hg HM e e0
    go_enter Try.func68, Try.ntmps68
    go_upto_region 7 with fail
    rw [← hW1, ← hW2]
    clear hW1 hW2 p2
    go_wp2_with fail
    have r5 := ((r2.set 0 (.int .i64 3)).set 1 (.int .i64 0)).set 2 (.int .i64 0)
    obtain ⟨e0, e1, e2⟩ := (show Blk _ (w.heap.size + 1) #[.int .i64 3, .int .i64 0, .int .i64 0] 69 from r5).three
    have B6 := ((B2.setCell (p := ⟨w.heap.size + 1, 0, none⟩) (Nat.le_succ _) (.int .i64 3)).setCell (p := ⟨w.heap.size + 1, 1, none⟩) (Nat.le_succ _) (.int .i64 0)).setCell (p := ⟨w.heap.size + 1, 2, none⟩) (Nat.le_succ _) (.int .i64 0)
    refine bodyPost_ret (v := .agg #[.int .i64 3, .int .i64 0, .int .i64 0]) (by simp [results, Try.results68, go_sem, e0, e1, e2]) rfl ⟨rfl, B6⟩

theorem gateOk_mono {n m x y z : Int} (h : gateOk n (x, y, z) = true) (hnm : n ≤ m) : gateOk m (x, y, z) = true := by
  rcases gateOk_yes h with ⟨hx, hy, hz⟩ | ⟨rfl, hy, rfl⟩ | ⟨rfl, rfl, rfl⟩
  · rw [gateOk, if_pos hx]
    simp only [wireOk, Bool.and_eq_true, decide_eq_true_eq]
    omega
  · rw [gateOk, if_neg (by omega), if_pos rfl]
    simp only [wireOk, Bool.and_eq_true, decide_eq_true_eq]
    exact ⟨⟨by omega, by omega⟩, trivial⟩
  · rfl

set_option maxHeartbeats 1000000 in
theorem mvClosure_any (g : Nat) (lb : Array Value) (eg : ∀ args w, (callFunc g args).run Try.prog w = .ok (.enter g args) w) (pl : Nat → Int) (N i : Nat) (x y z x' y' z' : Int) (bx : Nat) (w : World)
    (hb : w.cell? ⟨bx, 0, none⟩ = some (.func (.func g) #[] lb)) (hbs : bx < w.heap.size) (hp : PlaceAt g lb pl N w) (hg : gateOk (N : Int) (x, y, z) = true) (hm : mvG pl (x, y, z) = (x', y', z')) :
    Calls Try.prog 158 #[.int .i64 (i : Int), .agg #[.int .i64 x, .int .i64 y, .int .i64 z], .pointer (some ⟨bx, 0, none⟩)] w fun e w' => e = .returned (.agg #[.int .i64 x', .int .i64 y', .int .i64 z']) ∧ Below w.heap.size w w' := by
  have b1 := belowNew w (.cells #[.int .i64 x, .int .i64 y, .int .i64 z] 69)
  have p1 := Blk.new w #[.int .i64 x, .int .i64 y, .int .i64 z] 69
  obtain ⟨W1, hW1⟩ : ∃ W, W = w.alloc (.cells #[.int .i64 x, .int .i64 y, .int .i64 z] 69) := ⟨_, rfl⟩
  have s1 : W1.heap.size = w.heap.size + 1 := by rw [hW1]; simp
  rw [← hW1] at b1 p1
  have b2 := belowNew W1 (.cells #[.int .i64 0, .int .i64 0, .int .i64 0] 69)
  have r2 := Blk.newAt (k := w.heap.size + 1) W1 #[.int .i64 0, .int .i64 0, .int .i64 0] 69 s1.symm
  have p2 := p1.below' b2
  obtain ⟨W2, hW2⟩ : ∃ W, W = W1.alloc (.cells #[.int .i64 0, .int .i64 0, .int .i64 0] 69) := ⟨_, rfl⟩
  rw [← hW2] at b2 r2 p2
  have B2 := b1.trans (b2.mono b1.size)
  have hb2 := cellKept B2 hbs hb
  have HC := Lib.hid (movedGate_any g lb eg pl N x y z x' y' z' W2 (hp.below B2) hg hm)
  obtain ⟨d0, d1, d2⟩ := p2.three
  clear hp hg hm b1 b2 p1 p2 s1 hb
  go_enter Try.func158, Try.ntmps158
  go_upto_region 1 with fail
  rw [← hW1, ← hW2]
  clear hW1 hW2
  go_wp2_with fail
  refine (HC.out).mono ?_
  rintro e w3 ⟨rfl, b3⟩
  have r3 := r2.below' b3
  have B3 := B2.trans (b3.mono B2.size)
  obtain ⟨c0, c1, c2⟩ := r3.three
  have f0 := r3.free 0
  have f1 := r3.free 1
  have f2 := r3.free 2
  clear d0 d1 d2 hb2 r2 b3 B2 HC
  go_wp2_with fail
  have r5 := ((r3.set 0 (.int .i64 x')).set 1 (.int .i64 y')).set 2 (.int .i64 z')
  obtain ⟨e0, e1, e2⟩ := (show Blk _ (w.heap.size + 1) #[.int .i64 x', .int .i64 y', .int .i64 z'] 69 from r5).three
  have B6 := ((B3.setCell (p := ⟨w.heap.size + 1, 0, none⟩) (Nat.le_succ _) (.int .i64 x')).setCell (p := ⟨w.heap.size + 1, 1, none⟩) (Nat.le_succ _) (.int .i64 y')).setCell (p := ⟨w.heap.size + 1, 2, none⟩) (Nat.le_succ _) (.int .i64 z')
  refine bodyPost_ret (v := .agg #[.int .i64 x', .int .i64 y', .int .i64 z']) (by simp [results, Try.results158, go_sem, e0, e1, e2]) rfl ⟨rfl, B6⟩

theorem map_getD (f : Ga → Ga) {gs : List Ga} {k : Nat} (hk : k < gs.length) : (gs.map f).getD k g0 = f (gs.getD k g0) := by simp [List.getD, hk]

set_option maxHeartbeats 2000000 in
theorem changedMv_any (g : Nat) (lb : Array Value) (eg : ∀ args w, (callFunc g args).run Try.prog w = .ok (.enter g args) w) (pl : Nat → Int) (N : Nat) (A : Option Addr) (n c : Nat) (gs : List Ga) (bx : Nat) (w : World)
    (hb : w.cell? ⟨bx, 0, none⟩ = some (.func (.func g) #[] lb)) (hbs : bx < w.heap.size) (hp : PlaceAt g lb pl N w) (h : HasG w A n gs) (hn : n ≤ 1048576) (hgs : ∀ k, k < n → gateOk (N : Int) (gs.getD k g0) = true) :
    Calls Try.prog 157 #[.slice A n c, .func (.func 158) #[] #[.pointer (some ⟨bx, 0, none⟩)]] w fun e w' => ∃ R, e = .returned (.slice R n n) ∧ OwnG w' w.heap.size R n n (gs.map (mvG pl)) ∧ Below w.heap.size w w' := by
  obtain ⟨i0, hi, hz0, hz1, hz2⟩ := info_parts infoGate
  have hgl := h.1
  have hml : (gs.map (mvG pl)).length = n := by rw [List.length_map, hgl]
  have hvl : (gvals (gs.map (mvG pl))).length = n * 3 := by rw [gvals_length, hml]
  have HGS := Lib.hid hgs
  have HGL := Lib.hid hgl
  have HP := Lib.hid hp
  have HEG := Lib.hid eg
  clear hgs hgl hp eg
  go_enter Try.func157, Try.ntmps157
  go_wp2_with (at_make; refine wpList_make_full _ rfl _ _ 27 rfl w.heap.size 69 i0 (.agg #[.int .i64 0, .int .i64 0, .int .i64 0]) 3 Try.underlying27 hi hz0 hz1 .i64 .i64 _ _ n rfl rfl rfl rfl (by rw [hz2]; omega) (by simp only [maxLen]; omega) (Nat.le_refl _) ?_; intro w1 hown hgrow)
  have hb1 := belowOf hgrow
  go_loopw [13] (fun i wr => ∃ (k : Nat) (xs : List Value), k ≤ n ∧ i = .int .i64 k ∧ wr.ownsRow w.heap.size 69 3 (.slice (some ⟨w.heap.size, 0, none⟩) n n) n xs ∧ (∀ j, j < k * 3 → xs[j]? = (gvals (gs.map (mvG pl)))[j]?) ∧ Below w.heap.size w wr) (fun i _ => n - (intOf i).toNat)
  case atStart => exact ⟨0, _, Nat.zero_le _, rfl, hown, by intro j hj; omega, hb1⟩
  case round =>
    obtain ⟨k, xs, hk, rfl, ho, hxs, hbk⟩ := hrel
    by_cases hlt : k < n
    · obtain ⟨ad, x, y, z, rfl, hx, hy, hz, HE⟩ := (h.below hbk).elem hlt
      have HX := Lib.hid hxs
      clear hxs
      have hg := HGS.out k hlt
      rw [HE.out] at hg
      obtain ⟨x', y', z', hm⟩ : ∃ x' y' z', mvG pl (x, y, z) = (x', y', z') := ⟨_, _, _, rfl⟩
      have HM : Hid ((gs.map (mvG pl)).getD k g0 = (x', y', z')) := by show _ = _; rw [map_getD _ (by rw [HGL.out]; exact hlt), HE.out, hm]
      have k0 : (0 : Int) ≤ (k : Int) := by omega
      have k1 : (k : Int) < (n : Int) := by omega
      have b2 := belowNew wr (.cells #[.int .i64 x, .int .i64 y, .int .i64 z] 69)
      have y2 := Blk.new wr #[.int .i64 x, .int .i64 y, .int .i64 z] 69
      obtain ⟨w2, hw2⟩ : ∃ W, W = wr.alloc (.cells #[.int .i64 x, .int .i64 y, .int .i64 z] 69) := ⟨_, rfl⟩
      rw [← hw2] at b2 y2
      have B2 := hbk.trans (b2.mono hbk.size)
      have HC := Lib.hid (mvClosure_any g lb HEG.out pl N k x y z x' y' z' bx w2 (cellKept B2 hbs hb) (Nat.lt_of_lt_of_le hbs B2.size) (HP.out.below B2) hg hm)
      have ho2 : w2.ownsRow w.heap.size 69 3 (.slice (some ⟨w.heap.size, 0, none⟩) n n) n xs := ho.kept (grownOf b2 none) (.inr (by simp [Value.ownBlock]))
      obtain ⟨d0, d1, d2⟩ := y2.three
      clear hg hm ho y2 b2
      go_upto_region 5 with fail
      rw [← hw2]
      clear hw2 hx hy hz
      go_wp2_with fail
      refine (HC.out).mono ?_
      rintro e w3 ⟨rfl, b3⟩
      have ho3 : w3.ownsRow w.heap.size 69 3 (.slice (some ⟨w.heap.size, 0, none⟩) n n) n xs := ho2.kept (grownOf b3 none) (.inr (by simp [Value.ownBlock]))
      obtain ⟨⟨u0, c0⟩, ⟨u1, c1⟩, ⟨u2, c2⟩⟩ := gcells ho3 hlt
      have f0 := ho3.frozenAt (k * 3)
      have f1 := ho3.frozenAt (k * 3 + 1)
      have f2 := ho3.frozenAt (k * 3 + 2)
      have B3 := B2.trans (b3.mono B2.size)
      clear d0 d1 d2 ho2 b3 B2
      go_wp2
      obtain ⟨xs', ho4, hx4⟩ := gput ho3 hlt hml HX.out HM.out
      go_roundw
      case rel => exact ⟨k + 1, xs', by omega, by go_num, ho4, hx4, ((B3.setCell (Nat.le_refl _) _).setCell (Nat.le_refl _) _).setCell (Nat.le_refl _) _⟩
      case measure => simp [intOf]; omega
    · obtain rfl : k = n := by omega
      go_wp2
      go_ret
      refine ⟨some ⟨w.heap.size, 0, none⟩, rfl, ⟨hml, ?_⟩, hbk⟩
      have hxl : xs.length = k * 3 := ho.1
      have e : xs = gvals (gs.map (mvG pl)) := by
        apply List.ext_getElem?
        intro j
        by_cases hj : j < k * 3
        · exact hxs j hj
        · rw [List.getElem?_eq_none (by omega), List.getElem?_eq_none (by omega)]
      rw [← e]
      exact ho

set_option maxHeartbeats 400000 in
theorem mvClosure2_any (g : Nat) (lb : Array Value) (eg : ∀ args w, (callFunc g args).run Try.prog w = .ok (.enter g args) w) (pl : Nat → Int) (N i j : Nat) (bx : Nat) (w : World)
    (hb : w.cell? ⟨bx, 0, none⟩ = some (.func (.func g) #[] lb)) (hp : PlaceAt g lb pl N w) (hj : j < N) :
    Calls Try.prog 159 #[.int .i64 (i : Int), .int .i64 (j : Int), .pointer (some ⟨bx, 0, none⟩)] w fun e w' => e = .returned (.int .i64 (pl j)) ∧ Below w.heap.size w w' := by
  have HC := Lib.hid (hp w j hj (Below.refl _ _))
  clear hp
  go_enter Try.func159, Try.ntmps159
  go_wp2_with (go_at_fn g; ((with_reducible refine (HC.out).mono ?_); rintro e w2 ⟨rfl, b2⟩))
  go_ret
  exact ⟨rfl, b2⟩

theorem map_mapTo (f : Int → Int) (zs : List Int) : zs.map f = mapTo (fun j => f (zs.getD j 0)) zs.length := by
  apply List.ext_getElem
  · simp [mapTo]
  · intro i h1 h2
    simp [mapTo] at h1 h2 ⊢
    simp [h1]

set_option maxHeartbeats 2000000 in
theorem changedMv2_any (g : Nat) (lb : Array Value) (eg : ∀ args w, (callFunc g args).run Try.prog w = .ok (.enter g args) w) (pl : Nat → Int) (N : Nat) (A : Option Addr) (n c : Nat) (zs : List Int) (bx : Nat) (w : World)
    (hb : w.cell? ⟨bx, 0, none⟩ = some (.func (.func g) #[] lb)) (hbs : bx < w.heap.size) (hp : PlaceAt g lb pl N w) (h : Has w A n zs) (hn : n ≤ 1048576) (hzs : ∀ j, j < zs.length → 0 ≤ zs.getD j 0 ∧ zs.getD j 0 < (N : Int)) :
    Calls Try.prog 70 #[.slice A n c, .func (.func 159) #[] #[.pointer (some ⟨bx, 0, none⟩)]] w fun e w' => ∃ R, e = .returned (.slice R n n) ∧ Own w' w.heap.size R n n (zs.map fun z => pl z.toNat) ∧ Below w.heap.size w w' := by
  have HIN := Lib.hid hzs
  have HL := Lib.hid h.1
  have HP := Lib.hid hp
  have HEG := Lib.hid eg
  rw [map_mapTo, h.1]
  clear hzs hp eg
  go_enter Try.func70, Try.ntmps70
  go_wp2_with (at_make; refine makeInts _ rfl _ rfl n rfl (by omega) ?_; intro w1 hf hb1)
  have hf := hf (vals (mapTo (fun j => pl (zs.getD j 0).toNat) n))
  go_loopw [13] (fun i wr => ∃ j : Nat, j ≤ n ∧ i = .int .i64 j ∧ Filled wr w.heap.size 3 w.heap.size n (vals (mapTo (fun j => pl (zs.getD j 0).toNat) n)) (fun q => q < j) ∧ Below w.heap.size w wr) (fun i _ => n - (intOf i).toNat)
  case atStart => exact ⟨0, Nat.zero_le _, rfl, hf, hb1⟩
  case round =>
    obtain ⟨j, hj, rfl, hfj, hbj⟩ := hrel
    by_cases hlt : j < n
    · obtain ⟨ad, z, rfl, hc, HZ⟩ := (h.below hbj).elem hlt
      obtain ⟨z0, z1⟩ : 0 ≤ z ∧ z < (N : Int) := by rw [HZ.out]; exact HIN.out j (by rw [HL.out]; exact hlt)
      obtain ⟨i, rfl⟩ : ∃ i : Nat, z = (i : Int) := ⟨z.toNat, by omega⟩
      have HC := Lib.hid (mvClosure2_any g lb HEG.out pl N j i bx wr (cellKept hbj hbs hb) (HP.out.below hbj) (by omega))
      obtain ⟨y, hy⟩ : ∃ y, pl i = y := ⟨_, rfl⟩
      rw [hy] at HC
      have HY := Lib.hid hy
      clear hy
      go_wp2_with fail
      refine (HC.out).mono ?_
      rintro e w2 ⟨rfl, b2⟩
      have hf2 := hfj.below b2
      obtain ⟨u, hu⟩ := hf2.cell hlt
      have hfr := hf2.free j
      have B2 := hbj.trans (b2.mono hbj.size)
      clear hc
      go_wp2
      go_roundw
      case rel =>
        refine ⟨j + 1, by omega, by go_num, ?_, B2.setCell (Nat.le_refl _) _⟩
        exact hf2.put hlt (by rw [mapTo_vals _ hlt, ← HZ.out, ← HY.out]; rfl) (by intro q _ hq; omega)
      case measure => simp [intOf]; omega
    · go_wp2
      go_ret
      exact ⟨some ⟨w.heap.size, 0, none⟩, rfl, ⟨mapTo_length _ _, hfj.full (by rw [vals_length, mapTo_length]) (by intro q hq; omega)⟩, hbj⟩

end Go.Proofs.Yteiibneaihdmbaa
