/- What BitsText does, the program's and the model's: both give the same text. For slices of at most 16777216 elements. -/
import Derived.Test.YtdocbkocekamlaaBits8
import Derived.Laws.BytesArg
namespace Go.Proofs.Ytdocbkocekamlaa
open Go.RowKit

theorem infoByte : (Try.prog.info? 5).map (fun i => (i.zero, i.size, i.bytes)) = some (some (.int .u8 0), 1, 1) := by kernel_rfl

/-- The numbers of the characters of a list of bits, the last one first. -/
def code (zs : List Int) (j : Nat) : Int := 48 + zs.getD (zs.length - 1 - j) 0
def codes (zs : List Int) : List Int := mapTo (code zs) zs.length
def m_BitsText (zs : List Int) : ByteArray × Bool := if good 64 zs then (strOfNums (codes zs), true) else (ByteArray.empty, false)

theorem strOf_append (xs ys : List Int) : strOfNums xs ++ strOfNums ys = strOfNums (xs ++ ys) := by
  unfold strOfNums
  rw [ByteArray.mk_append_mk, List.map_append]
theorem retStrB {a b : ByteArray} {x : Bool} (h : a = b) : Ending.returned (.tuple #[.string a, .bool x]) = .returned (.tuple #[.string b, .bool x]) := by rw [h]
theorem retStr {a b : ByteArray} (h : a = b) : Ending.returned (.string a) = .returned (.string b) := by rw [h]

set_option maxHeartbeats 400000 in
theorem l1Num_small (z : Int) (w : World) (h0 : 0 ≤ z) (h1 : z ≤ 9) :
    Calls Try.prog 55 #[.int .i64 z] w fun e w' => ∃ t, e = .returned (.string t) ∧ Hid (t = strOfNums [48 + z]) ∧ t.size ≤ 1 ∧ Below w.heap.size w w' := by
  have hcv := run_convert_bytes_arg (P := Try.prog) (w.alloc (.cells #[.int .u8 (48 + z)] 5)) 22 5 Try.underlying22 Try.underlying5 w.heap.size 0 1 1 [48 + z] rfl
    (fun i hi => by obtain rfl : i = 0 := by omega
                    simp) 9 Try.underlying9
  obtain ⟨t, ht⟩ : ∃ t, t = strOfNums [48 + z] := ⟨_, rfl⟩
  rw [← ht] at hcv
  have hsz : t.size ≤ 1 := by rw [ht, strOfNums_size]; simp
  have HT := Lib.hid ht
  clear ht
  go_enter Try.func55, Try.ntmps55
  go_wp2_with fail
  go_ret
  exact ⟨t, rfl, HT, hsz, (Below.refl _ _).alloc (Nat.le_refl _) _⟩

set_option maxHeartbeats 400000 in
theorem btText_any (A : Option Addr) (n c : Nat) (zs : List Int) (w : World) (h : Has w A n zs) (hn : n ≤ 4096) (hg : ∀ k, k < zs.length → 0 ≤ zs.getD k 0 ∧ zs.getD k 0 ≤ 1) :
    Calls Try.prog 47 #[.slice A n c] w fun e w' => e = .returned (.string (strOfNums (codes zs))) ∧ Below w.heap.size w w' := by
  have HG := Lib.hid hg
  have HL := Lib.hid h.1
  clear hg
  go_enter Try.func47, Try.ntmps47
  go_wp2
  go_loopw [3, 4] (fun v i wr => ∃ (k : Nat) (t : ByteArray), k ≤ n ∧ i = .int .i64 ((k : Int) - 1) ∧ v = .string t ∧ t.size ≤ n - k ∧ Hid (t = strOfNums (mapTo (code zs) (n - k))) ∧ Below w.heap.size w wr) (fun _ i _ => (intOf i + 1).toNat)
  case atStart => exact ⟨n, _, Nat.le_refl _, by go_num, rfl, by show 0 ≤ _; omega, by show _ = _; simp [mapTo, strOfNums], Below.refl _ _⟩
  case round =>
    obtain ⟨k, t, hk, rfl, rfl, hts, HT, hbk⟩ := hrel
    cases k with
    | zero =>
      go_wp2
      go_ret
      exact ⟨retStr (by rw [HT.out, codes, HL.out]; rfl), hbk⟩
    | succ j =>
      have e1 : ((j + 1 : Nat) : Int) - 1 = (j : Int) := by omega
      rw [e1]
      clear e1
      have hj : j < n := by omega
      obtain ⟨ad, z, rfl, hc, HZ⟩ := (h.below hbk).elem hj
      obtain ⟨z0, z1⟩ : 0 ≤ z ∧ z ≤ 1 := by rw [HZ.out]; exact HG.out j (by rw [HL.out]; exact hj)
      have HE : Hid (mapTo (code zs) (n - j) = mapTo (code zs) (n - (j + 1)) ++ [48 + z]) := by
        show _ = _
        obtain ⟨q, hq⟩ : ∃ q, n - (j + 1) = q := ⟨_, rfl⟩
        have hq' : n - j = q + 1 := by omega
        have hq2 : n - 1 - q = j := by omega
        rw [hq', hq, mapTo_succ, code, HL.out, hq2, HZ.out]
      have hsz := hbk.size
      go_wp2_with (go_at_call 55; refine (l1Num_small z _ z0 (by omega)).mono ?_; rintro e w2 ⟨u, rfl, HU, hus, hb2⟩)
      go_roundw
      case rel =>
        refine ⟨j, t ++ u, by omega, by go_num, rfl, ?_, ?_, hbk.trans (hb2.mono hsz)⟩
        · rw [ByteArray.size_append]; omega
        · show _ = _
          rw [HE.out, HT.out, HU.out, strOf_append]
      case measure => simp [intOf]

/-- make([]byte, n): the walk goes on in a world in which n cells are the call's own. -/
theorem makeBytes {ops : Array Oper} {rest : List Oper} {o : Oper} {a : Act} {Q : Exit → Act → World → Prop} (w : World) (hg : o.guard = none) (l : Operand) (hop : o.op = Op.makeSlice 22 l l)
    (n : Nat) (hl : a.eval l = .int .i64 (n : Int)) (hn : n ≤ 16777216)
    (hK : ∀ w', (∀ ys, Filled w' w.heap.size 5 w.heap.size n ys (fun j => n - 0 ≤ j)) → Below w.heap.size w w' → wpList Try.prog ops Q rest (a.put o.dst (.slice (some ⟨w.heap.size, 0, none⟩) n n)) w') :
    wpList Try.prog ops Q (o :: rest) a w := by
  obtain ⟨i0, hi, hz0, hz1, hz2⟩ := info_parts infoByte
  refine wpList_make_full _ hg l l 22 hop w.heap.size 5 i0 (.int .u8 0) 1 Try.underlying22 hi hz0 hz1 .i64 .i64 _ _ n hl hl rfl rfl (by rw [hz2]; omega) (by simp only [maxLen]; omega) (Nat.le_refl _) ?_
  intro w1 hown hgrow
  exact hK w1 (fun ys => Filled.start hown _ (by intro j _; omega)) (belowOf hgrow)

set_option maxHeartbeats 1000000 in
theorem impl_BitsText (A : Option Addr) (n c : Nat) (zs : List Int) (rt : ByteArray) (rb : Bool) (w : World) (h : Has w A n zs) (hn : n ≤ 16777216) (hm : m_BitsText zs = (rt, rb)) :
    Calls Try.prog 27 #[.slice A n c] w fun e w' => e = .returned (.tuple #[.string rt, .bool rb]) ∧ Below w.heap.size w w' := by
  have HL := Lib.hid h.1
  cases hg : good 64 zs with
  | false =>
    rw [m_BitsText, hg, if_neg (by simp)] at hm
    obtain ⟨rfl, rfl⟩ := Prod.mk.inj hm
    have HG := Lib.hid hg
    clear hm hg
    go_enter Try.func27, Try.ntmps27
    go_wp2_with (go_at_call 9; refine (implAreBits A n c zs false _ h hn HG.out).mono ?_; rintro e w' ⟨rfl, rfl⟩)
    go_ret2
    exact ⟨rfl, Below.refl _ _⟩
  | true =>
    rw [m_BitsText, hg, if_pos rfl] at hm
    have HG := Lib.hid hg
    have HM := Lib.hid hm
    have hy := good_yes hg
    have HY := Lib.hid hy.2
    have hn64 : n ≤ 64 := by have := hy.1; have := h.1; omega
    clear hm hg hy
    obtain ⟨ys, hys⟩ : ∃ ys, ys = (codes zs).map (Value.int .u8) := ⟨_, rfl⟩
    have HV := Lib.hid hys
    clear hys
    go_enter Try.func27, Try.ntmps27
    go_wp2_with (first | (go_at_call 9; refine (implAreBits A n c zs true _ h hn HG.out).mono ?_; rintro e w' ⟨rfl, rfl⟩) | (at_make; refine makeBytes _ rfl _ rfl n rfl hn ?_; intro w1 hf hb1))
    have hf := hf ys
    go_loopw [15] (fun i wr => ∃ k : Nat, k ≤ n ∧ i = .int .i64 k ∧ Filled wr w.heap.size 5 w.heap.size n ys (fun j => n - k ≤ j) ∧ Below w.heap.size w wr) (fun i _ => n - (intOf i).toNat)
    case atStart => exact ⟨0, Nat.zero_le _, rfl, hf, hb1⟩
    case round =>
      obtain ⟨k, hk, rfl, hfk, hbk⟩ := hrel
      by_cases hlt : k < n
      · obtain ⟨ad, z, rfl, hc, HZ⟩ := (h.below hbk).elem hlt
        have z01 : 0 ≤ z ∧ z ≤ 1 := by rw [HZ.out]; exact HY.out k (by rw [HL.out]; exact hlt)
        obtain ⟨u, hu⟩ := hfk.cell (k := n - 1 - k) (by omega)
        have hfr := hfk.free (n - 1 - k)
        have HE : Hid (ys[n - 1 - k]? = some (.int .u8 (48 + z))) := by
          have hq : n - 1 - (n - 1 - k) = k := by omega
          have hlen : n - 1 - k < (codes zs).length := by rw [codes, mapTo_length, HL.out]; omega
          have hcd : (codes zs).getD (n - 1 - k) 0 = 48 + z := by
            rw [codes, HL.out, mapTo_at _ (by omega), code, HL.out, hq, HZ.out]
          show _ = _
          rw [HV.out, List.getElem?_map, List.getElem?_eq_getElem hlen, ← hcd]
          simp [List.getD, List.getElem?_eq_getElem hlen]
        clear HZ
        rcases bit_cases z01 with rfl | rfl
        all_goals
          clear z01
          go_wp2
          go_roundw
          case rel => exact ⟨k + 1, by omega, by go_num, hfk.put (by omega) (by rw [HE.out]; rfl) (by intro j _ hj; omega), hbk.setCell (Nat.le_refl _) _⟩
          case measure => simp [intOf]; omega
      · have hown := hfk.full (by rw [HV.out, List.length_map, codes, mapTo_length, HL.out]) (by intro j hj; omega)
        have hcv := run_convert_bytes_arg (P := Try.prog) wr 22 5 Try.underlying22 Try.underlying5 w.heap.size 0 n n (codes zs) (by rw [codes, mapTo_length, HL.out])
          (fun i hi => by
            have hlen : i < (codes zs).length := by rw [codes, mapTo_length, HL.out]; exact hi
            rw [Nat.zero_add, hown.cellAt i (by omega), HV.out, List.getElem?_map, List.getElem?_eq_getElem hlen]
            simp [List.getD, List.getElem?_eq_getElem hlen]) 9 Try.underlying9
        obtain ⟨t, ht⟩ : ∃ t, t = strOfNums (codes zs) := ⟨_, rfl⟩
        rw [← ht] at hcv
        have HT := Lib.hid ht
        clear ht hown
        go_wp2
        go_ret2
        obtain ⟨h1, rfl⟩ := Prod.mk.inj HM.out
        exact ⟨retStrB (by rw [HT.out]; exact h1), hbk⟩

end Go.Proofs.Ytdocbkocekamlaa
