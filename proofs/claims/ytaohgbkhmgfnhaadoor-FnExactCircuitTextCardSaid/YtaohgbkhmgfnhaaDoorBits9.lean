/- What BitsText does, the program's and the model's: both give the same text. For slices of at most 16777216 elements. -/
import Derived.Test.YtaohgbkhmgfnhaaDoorBits8
import Derived.Laws.BytesArg
namespace Go.Proofs.YtaohgbkhmgfnhaaDoor
open Go.RowKit
set_option maxRecDepth 100000

theorem infoByte : (Tryd.prog.info? 5).map (fun i => (i.zero, i.size, i.bytes)) = some (some (.int .u8 0), 1, 1) := by kernel_rfl

/-- The numbers of the characters of a list of bits, the last one first. -/
def code (zs : List Int) (j : Nat) : Int := 48 + zs.getD (zs.length - 1 - j) 0
def codes (zs : List Int) : List Int := mapTo (code zs) zs.length
def m_BitsText (zs : List Int) : ByteArray × Bool := if good 64 zs then (strOfNums (codes zs), true) else (ByteArray.empty, false)

theorem strOf_append (xs ys : List Int) : strOfNums xs ++ strOfNums ys = strOfNums (xs ++ ys) := by
  unfold strOfNums
  rw [ByteArray.mk_append_mk, List.map_append]
theorem retStrB {a b : ByteArray} {x : Bool} (h : a = b) : Ending.returned (.tuple #[.string a, .bool x]) = .returned (.tuple #[.string b, .bool x]) := by rw [h]
theorem retStr {a b : ByteArray} (h : a = b) : Ending.returned (.string a) = .returned (.string b) := by rw [h]

set_option maxHeartbeats 400000 in
theorem l1Num_small (z : Int) (w : World) (h0 : 0 ≤ z) (h1 : z ≤ 9) :
    Calls Tryd.prog 26 #[.int .i64 z] w fun e w' => ∃ t, e = .returned (.string t) ∧ Hid (t = strOfNums [48 + z]) ∧ t.size ≤ 1 ∧ Below w.heap.size w w' := by
  have hcv := run_convert_bytes_arg (P := Tryd.prog) (w.alloc (.cells #[.int .u8 (48 + z)] 5)) 60 5 Tryd.underlying60 Tryd.underlying5 w.heap.size 0 1 1 [48 + z] rfl
    (fun i hi => by obtain rfl : i = 0 := by omega
                    simp) 9 Tryd.underlying9
  obtain ⟨t, ht⟩ : ∃ t, t = strOfNums [48 + z] := ⟨_, rfl⟩
  rw [← ht] at hcv
  have hsz : t.size ≤ 1 := by rw [ht, strOfNums_size]; simp
  have HT := Lib.hid ht
  clear ht
  go_enter Tryd.func26, Tryd.ntmps26
  go_wp2_with fail
  go_ret
  exact ⟨t, rfl, HT, hsz, (Below.refl _ _).alloc (Nat.le_refl _) _⟩

/-- make([]byte, n): the walk goes on in a world in which n cells are the call's own. -/
theorem makeBytes {ops : Array Oper} {rest : List Oper} {o : Oper} {a : Act} {Q : Exit → Act → World → Prop} (w : World) (hg : o.guard = none) (l : Operand) (hop : o.op = Op.makeSlice 60 l l)
    (n : Nat) (hl : a.eval l = .int .i64 (n : Int)) (hn : n ≤ 16777216)
    (hK : ∀ w', (∀ ys, Filled w' w.heap.size 5 w.heap.size n ys (fun j => n - 0 ≤ j)) → Below w.heap.size w w' → wpList Tryd.prog ops Q rest (a.put o.dst (.slice (some ⟨w.heap.size, 0, none⟩) n n)) w') :
    wpList Tryd.prog ops Q (o :: rest) a w := by
  obtain ⟨i0, hi, hz0, hz1, hz2⟩ := info_parts infoByte
  refine wpList_make_full _ hg l l 60 hop w.heap.size 5 i0 (.int .u8 0) 1 Tryd.underlying60 hi hz0 hz1 .i64 .i64 _ _ n hl hl rfl rfl (by rw [hz2]; omega) (by simp only [maxLen]; omega) (Nat.le_refl _) ?_
  intro w1 hown hgrow
  exact hK w1 (fun ys => Filled.start hown _ (by intro j _; omega)) (belowOf hgrow)

end Go.Proofs.YtaohgbkhmgfnhaaDoor
