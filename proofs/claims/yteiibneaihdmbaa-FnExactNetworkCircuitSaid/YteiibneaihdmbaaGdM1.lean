/- Gadgets as mathematics: the gates that adding, subtracting, comparing, choosing, multiplying and counting make behind given ones, and the wires that carry what they are for. No condition. -/
import Derived.Test.YteiibneaihdmbaaCirAll
namespace Go.Proofs.Yteiibneaihdmbaa
open Go.RowKit
set_option maxRecDepth 100000

/-- What a step of adding makes of the bits u, v and the carry c behind the gates G: the gates, the sum, the new carry. -/
def addStep (N : Nat) (k : Nat) (u v c : Int) (G : List Ga) : List Ga × Int × Int :=
  if k = 0 then (G ++ [(0, u, v), (1, u, v)], ((N + G.length : Nat) : Int), ((N + G.length + 1 : Nat) : Int))
  else (G ++ [(0, u, c), (0, v, c), (0, ((N + G.length : Nat) : Int), v), (1, ((N + G.length : Nat) : Int), ((N + G.length + 1 : Nat) : Int)), (0, ((N + G.length + 3 : Nat) : Int), c)], ((N + G.length + 2 : Nat) : Int), ((N + G.length + 4 : Nat) : Int))
/-- The same for subtracting. -/
def subStep (N : Nat) (k : Nat) (u v c : Int) (G : List Ga) : List Ga × Int × Int :=
  if k = 0 then (G ++ [(0, u, v), (2, u, 0), (1, ((N + G.length + 1 : Nat) : Int), v)], ((N + G.length : Nat) : Int), ((N + G.length + 2 : Nat) : Int))
  else (G ++ [(0, u, c), (0, v, c), (0, ((N + G.length : Nat) : Int), v), (2, ((N + G.length : Nat) : Int), 0), (1, ((N + G.length + 3 : Nat) : Int), ((N + G.length + 1 : Nat) : Int)), (0, ((N + G.length + 4 : Nat) : Int), c)], ((N + G.length + 2 : Nat) : Int), ((N + G.length + 5 : Nat) : Int))
/-- The first k steps over two lists: the gates, the sums, the carry. -/
def carTo (st : Nat → Int → Int → Int → List Ga → List Ga × Int × Int) (G : List Ga) (us vs : List Int) : Nat → List Ga × List Int × Int
  | 0 => (G, [], -1)
  | k + 1 => let s := carTo st G us vs k; let t := st k (us.getD k 0) (vs.getD k 0) s.2.2 s.1; (t.1, s.2.1 ++ [t.2.1], t.2.2)
theorem carTo_succ (st : Nat → Int → Int → Int → List Ga → List Ga × Int × Int) (G : List Ga) (us vs : List Int) (k : Nat) :
    carTo st G us vs (k + 1) = ((st k (us.getD k 0) (vs.getD k 0) (carTo st G us vs k).2.2 (carTo st G us vs k).1).1, (carTo st G us vs k).2.1 ++ [(st k (us.getD k 0) (vs.getD k 0) (carTo st G us vs k).2.2 (carTo st G us vs k).1).2.1], (st k (us.getD k 0) (vs.getD k 0) (carTo st G us vs k).2.2 (carTo st G us vs k).1).2.2) := rfl
/-- A step makes at most six gates, and its carry is a wire. -/
def Steps (st : Nat → Int → Int → Int → List Ga → List Ga × Int × Int) : Prop := ∀ k u v c G, (st k u v c G).1.length ≤ G.length + 6 ∧ 0 ≤ (st k u v c G).2.2
theorem addSteps (N : Nat) : Steps (addStep N) := fun k u v c G => by
  unfold addStep
  split <;> simp <;> omega
theorem subSteps (N : Nat) : Steps (subStep N) := fun k u v c G => by
  unfold subStep
  split <;> simp <;> omega
theorem carTo_gates {st : Nat → Int → Int → Int → List Ga → List Ga × Int × Int} (h : Steps st) (G : List Ga) (us vs : List Int) : ∀ k, (carTo st G us vs k).1.length ≤ G.length + 6 * k
  | 0 => by simp [carTo]
  | k + 1 => by
    have h1 := carTo_gates h G us vs k
    have h2 := (h k (us.getD k 0) (vs.getD k 0) (carTo st G us vs k).2.2 (carTo st G us vs k).1).1
    rw [carTo_succ]
    simp only
    omega
theorem carTo_outs (st : Nat → Int → Int → Int → List Ga → List Ga × Int × Int) (G : List Ga) (us vs : List Int) : ∀ k, (carTo st G us vs k).2.1.length = k
  | 0 => rfl
  | k + 1 => by
    rw [carTo_succ]
    simp [carTo_outs st G us vs k]
theorem carTo_carry {st : Nat → Int → Int → Int → List Ga → List Ga × Int × Int} (h : Steps st) (G : List Ga) (us vs : List Int) (k : Nat) : 0 ≤ (carTo st G us vs (k + 1)).2.2 := by
  rw [carTo_succ]
  exact (h _ _ _ _ _).2
/-- Sums, and then the last carry. -/
def carOuts (st : Nat → Int → Int → Int → List Ga → List Ga × Int × Int) (G : List Ga) (us vs : List Int) (k : Nat) : List Int := (carTo st G us vs k).2.1 ++ [(carTo st G us vs k).2.2]
theorem carOuts_length (st : Nat → Int → Int → Int → List Ga → List Ga × Int × Int) (G : List Ga) (us vs : List Int) (k : Nat) : (carOuts st G us vs k).length = k + 1 := by simp [carOuts, carTo_outs]

/-- Gates that are made for each place: after k places the gates and the wires. -/
def eachTo (st : Nat → List Ga → List Ga × Int) (G : List Ga) : Nat → List Ga × List Int
  | 0 => (G, [])
  | k + 1 => let s := eachTo st G k; let t := st k s.1; (t.1, s.2 ++ [t.2])
theorem eachTo_succ (st : Nat → List Ga → List Ga × Int) (G : List Ga) (k : Nat) : eachTo st G (k + 1) = ((st k (eachTo st G k).1).1, (eachTo st G k).2 ++ [(st k (eachTo st G k).1).2]) := rfl
theorem eachTo_length (st : Nat → List Ga → List Ga × Int) (G : List Ga) : ∀ k, (eachTo st G k).2.length = k
  | 0 => rfl
  | k + 1 => by rw [eachTo_succ]; simp [eachTo_length st G k]
theorem eachTo_gates {st : Nat → List Ga → List Ga × Int} {m : Nat} (h : ∀ k G, (st k G).1.length ≤ G.length + m) (G : List Ga) : ∀ k, (eachTo st G k).1.length ≤ G.length + m * k
  | 0 => by simp [eachTo]
  | k + 1 => by
    have h1 := eachTo_gates h G k
    have h2 := h k (eachTo st G k).1
    rw [eachTo_succ, Nat.mul_add]
    simp only
    omega
theorem eachTo_pre (st : Nat → List Ga → List Ga × Int) (G : List Ga) {j : Nat} : ∀ {n : Nat}, j < n → (eachTo st G n).2.getD j 0 = (eachTo st G (j + 1)).2.getD j 0
  | 0, h => absurd h (by omega)
  | n + 1, h => by
    by_cases e : j = n
    · rw [e]
    · rw [← eachTo_pre st G (show j < n by omega), eachTo_succ]
      have hl := eachTo_length st G n
      simp only [List.getD]
      rw [List.getElem?_append_left (by omega)]
/-- d = a xor b, e = not d. -/
def sameStep (N : Nat) (us vs : List Int) (k : Nat) (G : List Ga) : List Ga × Int := (G ++ [(0, us.getD k 0, vs.getD k 0), (2, ((N + G.length : Nat) : Int), 0)], ((N + G.length + 1 : Nat) : Int))
/-- x if s is 1, y otherwise. -/
def pickStep (N : Nat) (s : Int) (xs ys : List Int) (k : Nat) (G : List Ga) : List Ga × Int :=
  (G ++ [(0, xs.getD k 0, ys.getD k 0), (1, s, ((N + G.length : Nat) : Int)), (0, ((N + G.length + 1 : Nat) : Int), ys.getD k 0)], ((N + G.length + 2 : Nat) : Int))
/-- One gate GtAnd for each bit of a. -/
def andStep (N : Nat) (v : Int) (us : List Int) (k : Nat) (G : List Ga) : List Ga × Int := (G ++ [(1, us.getD k 0, v)], ((N + G.length : Nat) : Int))
theorem sameStep_le (N : Nat) (us vs : List Int) (k : Nat) (G : List Ga) : (sameStep N us vs k G).1.length ≤ G.length + 2 := by simp [sameStep]
theorem pickStep_le (N : Nat) (s : Int) (us vs : List Int) (k : Nat) (G : List Ga) : (pickStep N s us vs k G).1.length ≤ G.length + 3 := by simp [pickStep]
theorem andStep_le (N : Nat) (s : Int) (us : List Int) (k : Nat) (G : List Ga) : (andStep N s us k G).1.length ≤ G.length + 1 := by simp [andStep]

/-- The and of the first k + 1 wires of a list. -/
def allTo (N : Nat) (G : List Ga) (es : List Int) : Nat → List Ga × Int
  | 0 => (G, es.getD 0 0)
  | k + 1 => let s := allTo N G es k; (s.1 ++ [(1, s.2, es.getD (k + 1) 0)], ((N + s.1.length : Nat) : Int))
theorem allTo_succ (N : Nat) (G : List Ga) (es : List Int) (k : Nat) : allTo N G es (k + 1) = ((allTo N G es k).1 ++ [(1, (allTo N G es k).2, es.getD (k + 1) 0)], ((N + (allTo N G es k).1.length : Nat) : Int)) := rfl
theorem allTo_gates (N : Nat) (G : List Ga) (es : List Int) : ∀ k, (allTo N G es k).1.length = G.length + k
  | 0 => rfl
  | k + 1 => by rw [allTo_succ]; simp [allTo_gates N G es k]; omega
/-- The gates and the wire of equality of two numbers of n bits, n at least 1. -/
def eqlTo (N : Nat) (G : List Ga) (us vs : List Int) (n : Nat) : List Ga × Int := allTo N (eachTo (sameStep N us vs) G n).1 (eachTo (sameStep N us vs) G n).2 (n - 1)

/-- A bit is added to a number: for the first k bits of it the gates, the sums, the carry. -/
def bitTo (N : Nat) (G : List Ga) (ss : List Int) (c : Int) : Nat → List Ga × List Int × Int
  | 0 => (G, [], c)
  | k + 1 => let s := bitTo N G ss c k; (s.1 ++ [(0, ss.getD k 0, s.2.2), (1, ss.getD k 0, s.2.2)], s.2.1 ++ [((N + s.1.length : Nat) : Int)], ((N + s.1.length + 1 : Nat) : Int))
theorem bitTo_succ (N : Nat) (G : List Ga) (ss : List Int) (c : Int) (k : Nat) :
    bitTo N G ss c (k + 1) = ((bitTo N G ss c k).1 ++ [(0, ss.getD k 0, (bitTo N G ss c k).2.2), (1, ss.getD k 0, (bitTo N G ss c k).2.2)], (bitTo N G ss c k).2.1 ++ [((N + (bitTo N G ss c k).1.length : Nat) : Int)], ((N + (bitTo N G ss c k).1.length + 1 : Nat) : Int)) := rfl
theorem bitTo_gates (N : Nat) (G : List Ga) (ss : List Int) (c : Int) : ∀ k, (bitTo N G ss c k).1.length = G.length + 2 * k
  | 0 => rfl
  | k + 1 => by rw [bitTo_succ]; simp [bitTo_gates N G ss c k]; omega
theorem bitTo_sums (N : Nat) (G : List Ga) (ss : List Int) (c : Int) : ∀ k, (bitTo N G ss c k).2.1.length = k
  | 0 => rfl
  | k + 1 => by rw [bitTo_succ]; simp [bitTo_sums N G ss c k]
/-- The number so far with one bit more, which is bit k + 1. -/
def cntStep (N : Nat) (k : Nat) (x : Int) (s : List Ga × List Int) : List Ga × List Int :=
  let t := bitTo N s.1 s.2 x s.2.length
  (t.1, if 2 ^ s.2.length ≤ k + 2 then t.2.1 ++ [t.2.2] else t.2.1)
def cnbTo (N : Nat) (G : List Ga) (vs : List Int) : Nat → List Ga × List Int
  | 0 => (G, [vs.getD 0 0])
  | k + 1 => cntStep N k (vs.getD (k + 1) 0) (cnbTo N G vs k)
theorem cnbTo_succ (N : Nat) (G : List Ga) (vs : List Int) (k : Nat) : cnbTo N G vs (k + 1) = cntStep N k (vs.getD (k + 1) 0) (cnbTo N G vs k) := rfl

/-- The product after i + 1 rows: the gates, the bits that stand, the sum so far without them. -/
def mulTo (N : Nat) (G : List Ga) (us vs : List Int) : Nat → List Ga × List Int × List Int
  | 0 =>
    let r := eachTo (andStep N (vs.getD 0 0) us) G us.length
    (r.1, r.2.take 1, r.2.drop 1)
  | i + 1 =>
    let s := mulTo N G us vs i
    let z : List Ga × List Int := if i = 0 then (s.1 ++ [(3, 0, 0), (2, ((N + s.1.length : Nat) : Int), 0)], s.2.2 ++ [((N + s.1.length + 1 : Nat) : Int)]) else (s.1, s.2.2)
    let r := eachTo (andStep N (vs.getD (i + 1) 0) us) z.1 us.length
    let o := carOuts (addStep N) r.1 z.2 r.2 us.length
    ((carTo (addStep N) r.1 z.2 r.2 us.length).1, s.2.1 ++ o.take 1, o.drop 1)

/-- n wires from one on. -/
def rangeL (from_ : Int) (n : Nat) : List Int := mapTo (fun j => from_ + (j : Int)) n
theorem rangeL_length (from_ : Int) (n : Nat) : (rangeL from_ n).length = n := mapTo_length _ _

end Go.Proofs.Yteiibneaihdmbaa
