/- A row of bytes that the call owns, none of its cells shut, whatever mark lies behind it: what a string turned into bytes leaves; appends to it, and its bytes turned into a string. -/
import Derived.Lib.AppendStr
import Derived.Lib.UnsafeStr
import Derived.Laws.IdiomStrings
import Derived.Lib.AppendIntMem
import Derived.Below
namespace Go.Proofs.YtibaiajanggbdaaGreatDoor
open Go Go.Lib Go.RowKit
set_option maxRecDepth 100000

/-- A mark that shuts none of the first c cells. -/
def Wide (fz : Nat × Nat) (c : Nat) : Prop := fz.2 ≤ fz.1 ∨ c ≤ fz.1

/-- v is a slice of n bytes that owns the cells xs from block B on. -/
def Line (w : World) (B : Nat) (e : TypeId) (v : Value) (n : Nat) (xs : List Value) : Prop :=
  xs.length = n ∧ ∃ g cap cur fz, v = .slice (some ⟨g, 0, none⟩) n cap ∧ B ≤ g ∧ w.heap[g]? = some (.cells cur e fz) ∧ Wide fz cap ∧ n ≤ cap ∧ cap ≤ maxLen ∧ cur.size = cap ∧ cur.toList.take n = xs

theorem storeWide (P : Program) (g o c : Nat) (t : TypeId) (fz : Nat × Nat) (hw : Wide fz c) : ∀ (vs : List Value) (i : Nat) (cur : Array Value) (w : World), w.heap[g]? = some (.cells cur t fz) → cur.size = c → o + i + vs.length ≤ c → (∀ v ∈ vs, v.oneCell' = true) →
    (storeCells ⟨g, o, none⟩ vs i).run P w = .ok () (w.setRow g (cur.toList.take (o + i) ++ vs ++ cur.toList.drop (o + i + vs.length)).toArray) := by
  intro vs
  induction vs with
  | nil =>
    intro i cur w hg _ _ _
    simp only [storeCells, List.append_nil, List.length_nil, Nat.add_zero, List.take_append_drop, Array.toArray_toList]
    rw [setRow_self w g cur t fz hg]
    rfl
  | cons v rest ih =>
    intro i cur w hg hc hl h1
    have hlen : (v :: rest).length = rest.length + 1 := rfl
    have hi : o + i < cur.size := by omega
    have ea : (⟨g, o, none⟩ : Addr).add i = ⟨g, o + i, none⟩ := by unfold Addr.add; split <;> simp_all
    have ec : w.cell? ⟨g, o + i, none⟩ = some cur[o + i] := by simp [World.cell?, hg, hi]
    have ef : w.frozen? ⟨g, o + i, none⟩ = false := by
      obtain ⟨lo, up⟩ := fz
      simp only [World.frozen?, hg, Bool.and_eq_false_iff, decide_eq_false_iff_not]
      rcases hw with h | h
      · have h : up ≤ lo := h
        omega
      · have h : c ≤ lo := h
        exact .inl (by omega)
    have es : (store ((⟨g, o, none⟩ : Addr).add i) v).run P w = .ok () (w.setRow g (cur.setIfInBounds (o + i) v)) := by
      rw [ea, run_store P w _ v _ (h1 v (by simp)), ec]
      simp [ef, setCell_eq_setRow w g (o + i) cur t fz v hg]
    have r := ih (i + 1) (cur.setIfInBounds (o + i) v) (w.setRow g (cur.setIfInBounds (o + i) v)) (setRow_heap w g cur _ t _ hg) (by simpa using hc) (by omega) (fun x hx => h1 x (by simp [hx]))
    simp only [storeCells, Sem.run_bind, es, Result.andThen_ok, r, setRow_setRow]
    congr 3
    have e := list_seg_step cur.toList (o + i) v rest (by simp; omega)
    simpa [Array.toList_setIfInBounds, Nat.add_assoc] using e

section
variable {w : World} {B : Nat} {e : TypeId} {v : Value} {n : Nat} {xs : List Value}

theorem Line.lt (h : Line w B e v n xs) : ∀ k, v.ownBlock = some k → B ≤ k ∧ k < w.heap.size := by
  intro k hk
  obtain ⟨_, g, cap, cur, fz, rfl, hb, hg, _⟩ := h
  simp [Value.ownBlock] at hk
  subst hk
  exact ⟨hb, (Array.getElem?_eq_some_iff.1 hg).1⟩

theorem Line.cells (h : Line w B e v n xs) {g : Nat} (hv : v.ownBlock = some g) : ∀ j u, xs[j]? = some u → w.cell? ((⟨g, 0, none⟩ : Addr).add j) = some u := by
  intro j u hu
  obtain ⟨_, g', cap, cur, fz, rfl, _, hg, _, _, _, _, ht⟩ := h
  simp [Value.ownBlock] at hv
  subst hv
  have ea : (⟨g', 0, none⟩ : Addr).add j = ⟨g', j, none⟩ := by unfold Addr.add; split <;> simp_all
  rw [ea, cell_of_row w g' j cur e fz hg]
  rw [← ht, List.getElem?_take] at hu
  split at hu
  · simpa using hu
  · cases hu

/-- It stays what it is while its block does. -/
theorem Line.on {w' : World} (h : Line w B e v n xs) (hk : ∀ k, v.ownBlock = some k → w'.heap[k]? = w.heap[k]?) : Line w' B e v n xs := by
  obtain ⟨hl, g, cap, cur, fz, rfl, hb, hg, rest⟩ := h
  exact ⟨hl, g, cap, cur, fz, rfl, hb, by rw [hk g rfl]; exact hg, rest⟩
theorem Line.alloc (h : Line w B e v n xs) (o : Obj) : Line (w.alloc o) B e v n xs := h.on fun k hk => heap_alloc_old w o k (h.lt k hk).2
theorem Line.below (h : Line w B e v n xs) {w' : World} (b : Below w.heap.size w w') : Line w' B e v n xs := h.on fun k hk => b.block k (h.lt k hk).2
theorem Line.is (h : Line w B e v n xs) : ∃ g cap, v = .slice (some ⟨g, 0, none⟩) n cap ∧ v.ownBlock = some g := by
  obtain ⟨_, g, cap, cur, fz, rfl, _⟩ := h
  exact ⟨g, cap, rfl, rfl⟩

/-- A string turned into bytes. -/
theorem Line.ofString (W : World) (hB : B ≤ W.heap.size) (s : ByteArray) (hs : s.size ≤ maxLen) :
    Line (W.drew.alloc (.cells (bytesRow s (grownCap W s.size 0 e)) e ((bytesRow s (grownCap W s.size 0 e)).size, (bytesRow s (grownCap W s.size 0 e)).size + 1))) B e (.slice (some ⟨W.heap.size, 0, none⟩) s.size (grownCap W s.size 0 e)) s.size (strCells s) := by
  have h1 := grownCap_ge W s.size 0 e
  have h2 : grownCap W s.size 0 e ≤ maxLen := grownCap_le_maxLen W s.size 0 e hs
  have h3 : (bytesRow s (grownCap W s.size 0 e)).size = grownCap W s.size 0 e := by
    simp only [bytesRow, Array.size_append, Array.size_map, Array.size_replicate]
    have : s.data.size = s.size := rfl
    omega
  refine ⟨strCells_length s, W.heap.size, _, _, _, rfl, hB, heap_alloc_new W.drew _, .inr (by show _ ≤ _; omega), h1, h2, h3, ?_⟩
  simp only [bytesRow, Array.toList_append]
  have hl : (Array.map (fun b => Value.int .u8 b.toNat) s.data).toList = strCells s := by simp [strCells]
  rw [hl]
  have := strCells_length s
  rw [← this]
  exact List.take_left

/-- The owned bytes turned into a string. -/
theorem Line.toString {P : Program} (src dst : TypeId) (l : List UInt8) (h : Line w B e v l.length (byteCells l)) (hs : P.underlying src = some (.slice e)) (he : P.underlying e = some (.int .u8)) (hd : P.underlying dst = some .string) :
    (convert src dst v).run P w = .ok (.string ⟨l.toArray⟩) w := by
  obtain ⟨g, cap, rfl, hg⟩ := h.is
  exact run_convert_bytes_back w src dst e ⟨g, 0, none⟩ cap l hs he hd fun j hj => h.cells hg j _ (by simp [byteCells, hj])
end

section
variable {P : Program} (w : World)

/-- What a growing append leaves. -/
theorem Line.grown (B : Nat) (e : TypeId) (hB : B ≤ w.heap.size) (olds news : List Value) (n m old : Nat) (hn : olds.length = n) (hm : news.length = m) (h63 : n + m ≤ maxLen) (row : Option Nat) :
    Line (w.drew.alloc (.cells (olds.toArray ++ news.toArray ++ Builtin.zeroCells (Value.int .u8 0).cells (grownCap w (n + m) old e - (n + m))) e)) B e (.slice (some ⟨w.heap.size, 0, none⟩) (n + m) (grownCap w (n + m) old e)) (n + m) (olds ++ news) ∧
      w.grownBy (w.drew.alloc (.cells (olds.toArray ++ news.toArray ++ Builtin.zeroCells (Value.int .u8 0).cells (grownCap w (n + m) old e - (n + m))) e)) row := by
  have h1 := grownCap_ge w (n + m) old e
  have h2 : grownCap w (n + m) old e ≤ maxLen := grownCap_le_maxLen w (n + m) old e h63
  have hl : (olds ++ news).length = n + m := by rw [List.length_append, hn, hm]
  have hz : (Value.int IntKind.u8 0).cells.size = 1 := rfl
  refine ⟨⟨hl, w.heap.size, _, _, (0, 0), rfl, hB, heap_alloc_new w.drew _, .inl (Nat.le_refl _), h1, h2, ?_, ?_⟩, ⟨rfl, rfl, rfl, by simp, fun k hk _ => heap_alloc_old w.drew _ k hk⟩⟩
  · simp only [Array.size_append, List.size_toArray, size_zeroCells, hz, hn, hm]
    omega
  · simp only [Array.toList_append, List.append_assoc]
    rw [← List.append_assoc, ← hl]
    exact List.take_left

/-- What an append in place leaves. -/
theorem Line.filled (B : Nat) (e : TypeId) (g cap n : Nat) (cur : Array Value) (fz : Nat × Nat) (xs news : List Value) (hb : B ≤ g) (hg : w.heap[g]? = some (.cells cur e fz)) (hw : Wide fz cap) (hc : cap ≤ maxLen) (hs : cur.size = cap) (ht : cur.toList.take n = xs) (hx : xs.length = n) (hroom : n + news.length ≤ cap) :
    Line (w.setRow g (cur.toList.take n ++ news ++ cur.toList.drop (n + news.length)).toArray) B e (.slice (some ⟨g, 0, none⟩) (n + news.length) cap) (n + news.length) (xs ++ news) ∧
      w.grownBy (w.setRow g (cur.toList.take n ++ news ++ cur.toList.drop (n + news.length)).toArray) (some g) := by
  have hl : (xs ++ news).length = n + news.length := by rw [List.length_append, hx]
  refine ⟨⟨hl, g, cap, _, fz, rfl, hb, setRow_heap w g cur _ e _ hg, hw, hroom, hc, ?_, ?_⟩, ⟨rfl, rfl, rfl, by simp, fun k _ hk => setRow_other w g k _ (fun e => hk (by simp [e]))⟩⟩
  · simp only [List.size_toArray, List.length_append, List.length_take, List.length_drop, Array.length_toList]
    omega
  · rw [ht, ← hl]
    exact List.take_left

theorem runOn (B : Nat) (t ty e : TypeId) (i : TypeInfo) (ht : P.underlying t = some (.slice e)) (hi : P.info? e = some i) (hz : i.zero = some (.int .u8 0)) (hs1 : i.size = 1) (hb1 : i.bytes = 1)
    (v : Value) (n : Nat) (xs : List Value) (h : Line w B e v n xs) (a : Addr) (m c : Nat) (news : List Value) (hl : news.length = m) (hnews : ∀ j u, news[j]? = some u → w.cell? (a.add j) = some u) (h1 : ∀ u ∈ news, u.oneCell' = true)
    (h63 : n + m ≤ 140737488355328) (hB : B ≤ w.heap.size) :
    ∃ v' w', (Builtin.append_ #[t, t] ty #[v, .slice (some a) m c]).run P w = .ok v' w' ∧ Line w' B e v' (n + m) (xs ++ news) ∧ w.grownBy w' v.ownBlock := by
  have hmax : n + m ≤ maxLen := by unfold maxLen; omega
  obtain ⟨hx, g, cap, cur, fz, rfl, hb, hg, hw, hnc, hcm, hcs, htk⟩ := id h
  by_cases hroom : n + m ≤ cap
  · have hf := run_firstCells_some (P := P) w 1 m a m c news (by omega) hnews
    have hst := storeWide P g n cap e fz hw news 0 cur w hg hcs (by omega) h1
    simp only [Nat.add_zero] at hst
    have F := Line.filled w B e g cap n cur fz xs news hb hg hw hcm hcs htk hx (by omega)
    rw [hl] at F hst
    refine ⟨_, _, ?_, F.1, F.2⟩
    simp [Builtin.append_, run_underlying ht, sizeOf, typeInfo, hi, hs1, Builtin.lenOf, hroom, hf, Addr.add_lit, hst]
  · have holds : ∀ j u, xs[j]? = some u → w.cell? ((⟨g, 0, none⟩ : Addr).add j) = some u := h.cells (g := g) rfl
    have hr := run_append_grow (P := P) w t ty e i (.int .u8 0) ht hi hz ⟨g, 0, none⟩ n cap xs (by rw [hs1]; omega) holds a m c news (by rw [hs1]; omega) hnews (by omega) (by omega) (growslice_fits (by omega) (by rw [hb1]; omega))
    have F := Line.grown w B e hB xs news n m cap hx hl hmax (Value.ownBlock (.slice (some ⟨g, 0, none⟩) n cap))
    exact ⟨_, _, hr, F.1, F.2⟩

theorem runOnS (B : Nat) (t u ty e : TypeId) (i : TypeInfo) (ht : P.underlying t = some (.slice e)) (hu : P.underlying u = some .string) (hi : P.info? e = some i) (hz : i.zero = some (.int .u8 0)) (hs1 : i.size = 1) (hb1 : i.bytes = 1)
    (v : Value) (n : Nat) (xs : List Value) (h : Line w B e v n xs) (s : ByteArray) (h63 : n + s.size ≤ 140737488355328) (hB : B ≤ w.heap.size) :
    ∃ v' w', (Builtin.append_ #[t, u] ty #[v, .string s]).run P w = .ok v' w' ∧ Line w' B e v' (n + s.size) (xs ++ strCells s) ∧ w.grownBy w' v.ownBlock := by
  have hmax : n + s.size ≤ maxLen := by unfold maxLen; omega
  obtain ⟨hx, g, cap, cur, fz, rfl, hb, hg, hw, hnc, hcm, hcs, htk⟩ := id h
  have hl := strCells_length s
  by_cases hroom : n + s.size ≤ cap
  · have hf := run_firstCells_string (P := P) w 1 s
    have hst := storeWide P g n cap e fz hw (strCells s) 0 cur w hg hcs (by omega) (strCells_oneCell s)
    simp only [Nat.add_zero] at hst
    have F := Line.filled w B e g cap n cur fz xs (strCells s) hb hg hw hcm hcs htk hx (by omega)
    rw [hl] at F hst
    refine ⟨_, _, ?_, F.1, F.2⟩
    simp [Builtin.append_, run_underlying ht, run_underlying hu, sizeOf, typeInfo, hi, hs1, Builtin.lenOf, hroom, hf, Addr.add_lit, hst]
  · have holds : ∀ j u, xs[j]? = some u → w.cell? ((⟨g, 0, none⟩ : Addr).add j) = some u := h.cells (g := g) rfl
    have hr := run_append_grow_string (P := P) w t u ty e i (.int .u8 0) ht hu hi hz ⟨g, 0, none⟩ n cap xs (by rw [hs1]; omega) holds s (by omega) (by omega) (by rw [hb1]; exact growslice_fits (by omega) (by omega))
    have F := Line.grown w B e hB xs (strCells s) n s.size cap hx hl hmax (Value.ownBlock (.slice (some ⟨g, 0, none⟩) n cap))
    exact ⟨_, _, hr, F.1, F.2⟩

/-- For the walk: an append of a slice's bytes. -/
theorem wpOn {ops : Array Oper} {rest : List Oper} {o : Oper} {a : Act} {Q : Exit → Act → World → Prop} (hgd : o.guard = none) (s x : Operand) (t : TypeId)
    (ho : o.op = .call { callee := .builtin .append, args := #[s, x], argTypes := #[t, t] })
    (B : Nat) (e : TypeId) (i : TypeInfo) (ht : P.underlying t = some (.slice e)) (hi : P.info? e = some i) (hz : i.zero = some (.int .u8 0)) (hs1 : i.size = 1) (hb1 : i.bytes = 1)
    (v : Value) (n : Nat) (xs : List Value) (hs : a.eval s = v) (h : Line w B e v n xs) (ad : Addr) (m c : Nat) (news : List Value) (hx : a.eval x = .slice (some ad) m c) (hl : news.length = m) (hnews : ∀ j u, news[j]? = some u → w.cell? (ad.add j) = some u) (h1 : ∀ u ∈ news, u.oneCell' = true)
    (h63 : n + m ≤ 140737488355328) (hB : B ≤ w.heap.size)
    (hh : ∀ v' w', Line w' B e v' (n + m) (xs ++ news) → w.grownBy w' v.ownBlock → wpList P ops Q rest (a.put o.dst v') w') : wpList P ops Q (o :: rest) a w := by
  refine wpList_plain hgd fun K hK => ?_
  obtain ⟨v', w', hr, h2, h3⟩ := runOn (P := P) w B t o.type e i ht hi hz hs1 hb1 v n xs h ad m c news hl hnews h1 h63 hB
  unfold Oper.wp execOp
  simp only [ho, resolve, invoke, builtin, Sem.run_bind, Sem.run_pure, Result.andThen_ok, List.map_toArray, List.map_cons, List.map_nil, hs, hx, hr]
  exact hK _ _ (hh v' w' h2 h3)

/-- For the walk: an append of a string's bytes. -/
theorem wpOnS {ops : Array Oper} {rest : List Oper} {o : Oper} {a : Act} {Q : Exit → Act → World → Prop} (hgd : o.guard = none) (sl x : Operand) (t u : TypeId)
    (ho : o.op = .call { callee := .builtin .append, args := #[sl, x], argTypes := #[t, u] })
    (B : Nat) (e : TypeId) (i : TypeInfo) (ht : P.underlying t = some (.slice e)) (hu : P.underlying u = some .string) (hi : P.info? e = some i) (hz : i.zero = some (.int .u8 0)) (hs1 : i.size = 1) (hb1 : i.bytes = 1)
    (v : Value) (n : Nat) (xs : List Value) (hs : a.eval sl = v) (h : Line w B e v n xs) (s : ByteArray) (hx : a.eval x = .string s)
    (h63 : n + s.size ≤ 140737488355328) (hB : B ≤ w.heap.size)
    (hh : ∀ v' w', Line w' B e v' (n + s.size) (xs ++ strCells s) → w.grownBy w' v.ownBlock → wpList P ops Q rest (a.put o.dst v') w') : wpList P ops Q (o :: rest) a w := by
  refine wpList_plain hgd fun K hK => ?_
  obtain ⟨v', w', hr, h2, h3⟩ := runOnS (P := P) w B t u o.type e i ht hu hi hz hs1 hb1 v n xs h s h63 hB
  unfold Oper.wp execOp
  simp only [ho, resolve, invoke, builtin, Sem.run_bind, Sem.run_pure, Result.andThen_ok, List.map_toArray, List.map_cons, List.map_nil, hs, hx, hr]
  exact hK _ _ (hh v' w' h2 h3)
end

end Go.Proofs.YtibaiajanggbdaaGreatDoor
