/- What the closing of a tied row wants, whatever its tables are: the wrap that keeps the world's shape, the listed variables read again, no stand-ins, an array of strings as a row lists it. No condition beyond what each lemma names. -/
import Derived.Test.YtcbofogmfelpkaaDoorBase
import Derived.ChangeSame
import Derived.ChangeVars
import Derived.ChangeArms
import Derived.LaidLaws
import Derived.LaidMore
import Derived.LaidHandle
import Derived.Stop.Joined
import Derived.Stop.LaidErr
import Derived.Lib.LaidTab
import Derived.SevenTiedAt
import Derived.HandedShaped
import Derived.Shelf.Vars
namespace Go
/-- The wrap of a tied row that keeps both what it lists and the world's shape. -/
theorem handedShaped {H : Type} {enc : TypeId × Value → H} {a : Assume} {C : Checked} {os : Os} {f : FuncId} {fn : Func} {s : ChangeSpec} {conds : List PathCond} {apart fresh handsOn again : Bool} {X : World → Array Value → Prop}
    (keep : ∀ (w w' : World) (args : Array Value), w.heap = w'.heap → X w args → X w' args)
    (own : ownKnob C.prog.godebug = none) (started : os.Started) (noInit : C.prog.inits.idxOf? f = none) (hfn : C.prog.funcs[f]? = some fn)
    (witness : ∃ (w : World) (tape : Tape) (i : Input), w.os = os ∧ (w.forCall tape i).Shaped C.prog ∧ i.vars = [] ∧ Input.okWide C.prog (w.forCall tape i) .any w.heap.size f i ∧
      ((s.pre enc C.prog fn conds apart (w.forCall tape i).memory i.args ∧ X (w.forCall tape i).memory i.args) ∧ sizedMet enc C.prog fn (OpenSpec.ofChange s) apart (w.forCall tape i).memory i.args) ∧ a.holds C.prog (lone (Frame.enter C.prog f i.args .normal) [] (w.forCall tape i)))
    (contract : ∀ (W : World) (base : Nat) (args : Array Value) (ds gs : List (DataW H)) (before : List MemPlace),
      (∀ (j : Nat) t v, fn.params[j]? = some t → args[j]? = some v → Value.okWide C.prog W .any base t v) →
      DataW.Whole enc C.prog fn.params.toList s.vars apart W args.toList ds gs before → X W args → W.ShapedOpen C.prog →
      Calls C.prog f args W fun e W' => ∃ v, e = .returned v ∧ s.post enc C.prog fn apart fresh handsOn again W args v W') :
    ReturnsInHanded a C os f .any (fun w args => (s.pre enc C.prog fn conds apart w args ∧ X w args) ∧ sizedMet enc C.prog fn (OpenSpec.ofChange s) apart w args) (s.post enc C.prog fn apart fresh handsOn again) :=
  returnsInHanded_of_calls own started noInit witness fun w tape i _ shape _ okay given _ => by
    obtain ⟨_, _, _, g, hg, _, _, _, _, vals⟩ := okay
    obtain rfl : g = fn := Option.some.inj (hg.symm.trans hfn)
    obtain ⟨⟨⟨ds, gs, before, whole, _⟩, met⟩, _⟩ := given
    refine (contract (w.forCall tape i) w.heap.size i.args ds gs before vals (DataW.Whole.of_heap (w' := w.forCall tape i) (by rfl) whole) (keep _ _ _ (by rfl) met) shape).mono fun e W' h => ?_
    obtain ⟨v, rfl, hp⟩ := h
    exact ChangeSpec.post_blind hp
end Go
namespace Go.Proofs.YtcbofogmfelpkaaDoor
open Go.ChangeShapes Go.WideShapes Go.ChangeAt Go.RowKit
set_option maxRecDepth 100000

/-- An array of strings that reads as these byte lists holds them, cell for cell. -/
theorem strs_of_tab {H : Type} {enc : TypeId × Value → H} {P : Program} {w : World} {base : Nat} {sp : Nat → Bool} {held : Bool} {fuel : Nat} {t e : TypeId} {n : Nat} {cs : List Value} {ss : List (List UInt8)} {p : List MemPlace}
    (ht : P.underlying t = some (.array n e)) (he : P.underlying e = some .string) (hce : P.cellsOf e = 1) (hct : P.cellsOf t = n)
    (h : DataW.trod enc P w base sp held fuel t cs = some (.agg (ss.map fun s => .lit (.string s)), p)) : cs = ss.map fun s => Value.string ⟨s.toArray⟩ := by
  cases fuel with
  | zero => simp [DataW.trod] at h
  | succ fuel =>
    simp only [DataW.trod, ht, hce, hct, Nat.mul_one] at h
    split at h
    · rename_i hl
      obtain ⟨xs, hm, hx⟩ := Option.map_eq_some_iff.1 h
      have hxs : xs.map (·.1) = ss.map fun s => (DataW.lit (.string s) : DataW H) := by
        have := congrArg Prod.fst hx
        simpa using this
      have hxl : xs.length = n := by simpa using Lib.mapM_length hm
      have hzl : ss.length = n := by
        have := congrArg List.length hxs
        simp at this
        omega
      apply List.ext_getElem?
      intro i
      by_cases hi : i < n
      · obtain ⟨b, hb, hf⟩ := Lib.mapM_at hm i i (by simp [hi])
        obtain ⟨s, hc, rfl, _⟩ := DataW.trod_string he hf
        have h1 : cs[i]? = some (.string s) := by
          have := congrArg (·[0]?) hc
          simpa [List.getElem?_take, List.getElem?_drop] using this
        have h2 : (xs.map (·.1))[i]? = some (DataW.lit (.string s.data.toList) : DataW H) := by simp [hb]
        rw [hxs] at h2
        simp only [List.getElem?_map, Option.map_eq_some_iff, DataW.lit.injEq, Lit.string.injEq] at h2
        obtain ⟨z', hz', rfl⟩ := h2
        simp [h1, hz']
      · rw [List.getElem?_eq_none (by omega), List.getElem?_eq_none (by simp; omega)]
    · cases h

/-- An array of triples (a text and two integers) that reads as these rows holds them, cell for cell. -/
theorem rows3_of_tab {H : Type} {enc : TypeId × Value → H} {P : Program} {w : World} {base : Nat} {sp : Nat → Bool} {held : Bool} {fuel : Nat} {t e ts ti : TypeId} {n : Nat} {f0 f1 f2 : Field} {cs : List Value} {rs : List (List UInt8 × Int × Int)} {p : List MemPlace}
    (ht : P.underlying t = some (.array n e)) (he : P.underlying e = some (.struct #[f0, f1, f2])) (hce : P.cellsOf e = 3) (hct : P.cellsOf t = n * 3) (h0 : f0.type = ts ∧ f0.offset = 0) (h1 : f1.type = ti ∧ f1.offset = 1) (h2 : f2.type = ti ∧ f2.offset = 2)
    (hs : P.underlying ts = some .string) (hi : P.underlying ti = some (.int .i64)) (hcs : P.cellsOf ts = 1) (hci : P.cellsOf ti = 1)
    (h : DataW.trod enc P w base sp held fuel t cs = some (.agg (rs.map fun r => .agg [.lit (.string r.1), .lit (.int .i64 r.2.1), .lit (.int .i64 r.2.2)]), p)) (i : Nat) (hin : i < n) :
    ∃ r, rs[i]? = some r ∧ cs[i * 3]? = some (.string ⟨r.1.toArray⟩) ∧ cs[i * 3 + 1]? = some (.int .i64 r.2.1) ∧ cs[i * 3 + 2]? = some (.int .i64 r.2.2) := by
  cases fuel with
  | zero => simp [DataW.trod] at h
  | succ fuel =>
    simp only [DataW.trod, ht, hce, hct] at h
    split at h
    · rename_i hl
      obtain ⟨xs, hm, hx⟩ := Option.map_eq_some_iff.1 h
      have hxs : xs.map (·.1) = rs.map fun r => (DataW.agg [.lit (.string r.1), .lit (.int .i64 r.2.1), .lit (.int .i64 r.2.2)] : DataW H) := by
        have := congrArg Prod.fst hx
        simpa using this
      obtain ⟨b, hb, hf⟩ := Lib.mapM_at hm i i (by simp [hin])
      obtain ⟨ys, m, _, hy, hlen, hyl, hfs⟩ := DataW.trod_struct he hf
      have h3 : (xs.map (·.1))[i]? = some b.1 := by simp [hb]
      rw [hxs, List.getElem?_map, Option.map_eq_some_iff] at h3
      obtain ⟨r, hr, hrb⟩ := h3
      refine ⟨r, hr, ?_⟩
      have g0 := hfs 0 f0 rfl
      have g1 := hfs 1 f1 rfl
      have g2 := hfs 2 f2 rfl
      have hyl' : ys.length = 3 := hyl
      match ys, hyl' with
      | [y0, y1, y2], _ =>
        rw [h0.1, h0.2, hcs] at g0
        rw [h1.1, h1.2, hci] at g1
        rw [h2.1, h2.2, hci] at g2
        obtain ⟨s, c0, k0, _⟩ := DataW.trod_string hs g0
        obtain ⟨z1, c1, k1, _⟩ := DataW.trod_int hi g1
        obtain ⟨z2, c2, k2, _⟩ := DataW.trod_int hi g2
        rw [hy] at hrb
        simp only [k0, k1, k2, List.map_cons, List.map_nil, DataW.agg.injEq, List.cons.injEq, DataW.lit.injEq, Lit.string.injEq, Lit.int.injEq, true_and, and_true] at hrb
        obtain ⟨e0, e1, e2⟩ := hrb
        have key : ∀ (j : Nat) (v : Value), j < 3 → List.take 1 (List.drop j (List.take 3 (List.drop (i * 3) cs))) = [v] → cs[i * 3 + j]? = some v := fun j v hj hc => by
          have := congrArg (·[0]?) hc
          simpa [List.getElem?_take, List.getElem?_drop, hj] using this
        refine ⟨?_, ?_, ?_⟩
        · have := key 0 _ (by omega) c0
          rw [e0]
          simpa using this
        · rw [e1]; exact key 1 _ (by omega) c1
        · rw [e2]; exact key 2 _ (by omega) c2
    · cases h

/-- The types of these variables can be read again. -/
def varsOk (P : Program) (ns : List String) : Bool := ns.all fun n => match P.globalNamed n with
  | some g => match P.globals[g]? with
    | some G => P.readableRec G.type && decide (G.type < P.types.size)
    | none => true
  | none => true

/-- The listed variables read behind the call as they did before. -/
theorem varsAgain {H : Type} {enc : TypeId × Value → H} {P : Program} (hl : laidOutB P = true) {W W' : World} (hb : Below W.heap.size W W') : ∀ {ns : List String} {gs : List (DataW H)} {q : List MemPlace}, varsOk P ns = true →
    DataW.TrodVars enc P W (fun _ => true) ns gs q → (∀ x ∈ q, x.block < W.heap.size) → DataW.TrodVars enc P W' (fun b => decide (b < W.heap.size)) ns gs q
  | [], [], q, _, h, _ => h
  | [], _ :: _, q, _, h, _ => by simp [DataW.TrodVars] at h
  | _ :: _, [], q, _, h, _ => by simp [DataW.TrodVars] at h
  | n :: ns, d :: ds, q, ho, h, hlt => by
    obtain ⟨g, t, cs, fuel, p, q', h1, h2, h3, h4, hs, rfl⟩ := h
    rw [varsOk, List.all_cons, Bool.and_eq_true] at ho
    obtain ⟨o1, o2⟩ := ho
    have hrd : P.readableRec t = true ∧ t < P.types.size := by
      rw [h1] at o1
      simp only at o1
      obtain ⟨G, hG, rfl⟩ := Option.map_eq_some_iff.1 h2
      rw [hG] at o1
      simp only [Bool.and_eq_true, decide_eq_true_eq] at o1
      exact o1
    have hgl : g < W.heap.size := by
      unfold World.var? at h3
      rw [h1] at h3
      simp only [Option.bind_some] at h3
      cases e : W.heap[g]? with
      | none => rw [e] at h3; cases h3
      | some o => exact (Array.getElem?_eq_some_iff.1 e).1
    have hv : W'.var? P n = some cs := by
      unfold World.var? at h3 ⊢
      rw [h1] at h3 ⊢
      simp only [Option.bind_some] at h3 ⊢
      rw [hb.block g hgl]
      exact h3
    have h0 : DataW.Trod enc P W 0 (fun _ => true) true t (.agg cs) d p := ⟨fuel, h4⟩
    obtain ⟨fuel', h5⟩ := Below.trod hl hrd.1 hrd.2 h0 hb (fun x hx => hlt x (by simp [hx]))
    exact ⟨g, t, cs, fuel', p, q', h1, h2, hv, h5, varsAgain hl hb o2 hs (fun x hx => hlt x (by simp [hx])), rfl⟩

theorem vars2 {H : Type} {enc : TypeId × Value → H} {P : Program} {W : World} {sp : Nat → Bool} {a b : String} {gs : List (DataW H)} {q : List MemPlace} (h : DataW.TrodVars enc P W sp [a, b] gs q) : ∃ x y, gs = [x, y] := by
  match gs with
  | [] => simp [DataW.TrodVars] at h
  | [x] =>
    obtain ⟨_, _, _, _, _, _, _, _, _, _, hs, _⟩ := h
    simp [DataW.TrodVars] at hs
  | [x, y] => exact ⟨x, y, rfl⟩
  | x :: y :: z :: l =>
    obtain ⟨_, _, _, _, _, _, _, _, _, _, hs, _⟩ := h
    obtain ⟨_, _, _, _, _, _, _, _, _, _, hs, _⟩ := hs
    simp [DataW.TrodVars] at hs

theorem noStandIn {P : Program} {fn : Func} (h : (fn.params.toList.all fun t => P.wantsStandIn t == false) = true) (j : Nat) (t : TypeId) (ht : fn.params[j]? = some t) : P.wantsStandIn t = false := by
  have hm : t ∈ fn.params.toList := by
    obtain ⟨hj, e⟩ := Array.getElem?_eq_some_iff.1 ht
    rw [← e]
    exact Array.getElem_mem_toList hj
  simpa using List.all_eq_true.1 h t hm

end Go.Proofs.YtcbofogmfelpkaaDoor
