/- The model's WireValues and EvalCircuit. For every circuit of at most 1048576 gates and outs and every two lists of at most 16777216 numbers. -/
import Derived.Test.YtnelcbjegbchkaaCirG3
namespace Go.Proofs.Ytnelcbjegbchkaa
open Go.RowKit
set_option maxRecDepth 100000

/-- The outs' wires of a valid circuit. -/
theorem outsIn {C : Ci} (h : Good C) {m : Nat} (hm : (m : Int) = C.wires) : ∀ k, k < C.os.length → 0 ≤ C.os.getD k 0 ∧ C.os.getD k 0 < (m : Int) := fun k hk => by
  have := h.out k hk
  omega

set_option maxRecDepth 100000 in
set_option maxHeartbeats 2000000 in
theorem ciOuts_any (v : Value) (C : Ci) (A : Option Addr) (m cA : Nat) (xs : List Int) (w : World) (h : HasC w v C) (hG : Good C) (hx : Has w A m xs) (hnil : NilOk A m cA) (hb : Bits xs) (hl : (m : Int) = C.ins) :
    Calls Try.prog 132 #[v, .slice A m cA] w fun e w' => ∃ R c', e = .returned (.slice R C.os.length c') ∧ Own w' w.heap.size R C.os.length c' (pickL (valsC C xs) C.os) ∧ Below w.heap.size w w' := by
  obtain ⟨G, n, c, O, q, d, rfl, hGs, hO, _, _, _, _⟩ := id h
  have hol := hO.1
  have m40 : m ≤ 40 := by have := hG.a1; have := hG.b1; unfold Ci.ins at hl; omega
  have gl := Lib.hid (show C.gs.length ≤ 300 from hG.g)
  have o40 : q ≤ 40 := by have := hG.o; omega
  have hwir : ((m + C.gs.length : Nat) : Int) = C.wires := by rw [Ci.wires]; unfold Ci.ins at hl; push_cast; omega
  have HIn := Lib.hid (outsIn hG hwir)
  have B1 := belowNew w (.cells #[.int .i64 C.in0, .int .i64 C.in1, .slice G n c, .slice O q d] 34)
  have p1 := Blk.new w #[.int .i64 C.in0, .int .i64 C.in1, .slice G n c, .slice O q d] 34
  have h1 := h.below B1
  have hx1 := hx.below B1
  have hO1 := hO.below B1
  obtain ⟨W1, hW1⟩ : ∃ W, W = w.alloc (.cells #[.int .i64 C.in0, .int .i64 C.in1, .slice G n c, .slice O q d] 34) := ⟨_, rfl⟩
  rw [← hW1] at B1 p1 h1 hx1 hO1
  have D : Below W1.heap.size W1 W1.drew := (Below.refl _ W1).drew
  have hK : Hid (∀ W', Below W1.heap.size W1 W' → W'.cell? ⟨w.heap.size, 0, none⟩ = some (.int .i64 C.in0) ∧ W'.cell? ⟨w.heap.size, 1, none⟩ = some (.int .i64 C.in1) ∧ W'.cell? ⟨w.heap.size, 2, none⟩ = some (.slice G n c) ∧ W'.cell? ⟨w.heap.size, 3, none⟩ = some (.slice O q d)) := fun W' hb => (p1.below' hb).four
  have HV := Lib.hid (ciValues_any _ C A m cA xs W1.drew (h1.below D) hG (hx1.below D) hnil hb hl)
  have HP : Hid (∀ R c' W', Below W1.heap.size W1 W' → Own W' W1.heap.size R (m + C.gs.length) c' (valsC C xs) → Calls Try.prog 81 #[.slice R (m + C.gs.length) c', .slice O q d] W' fun e w' => ∃ R3 c3, e = .returned (.slice R3 q c3) ∧ Own w' W'.heap.size R3 q c3 (pickL (valsC C xs) C.os) ∧ Below W'.heap.size W' w') := fun R c' W' hb ho => ciPick_any R (m + C.gs.length) c' _ O q d C.os W' ho.has (by have := gl.out; omega) (hO1.below hb) (by omega) HIn.out
  rw [hol]
  clear h hG hx hl hwir h1 hx1 hO1 hGs hO hb
  go_enter Try.func132, Try.ntmps132
  go_wp2_with fail
  rw [← hW1]
  clear hW1
  go_region_held3 (fun w' => w'.cell? ⟨w.heap.size, 0, none⟩ = some (.int .i64 C.in0) ∧ w'.cell? ⟨w.heap.size, 1, none⟩ = some (.int .i64 C.in1) ∧ w'.cell? ⟨w.heap.size, 2, none⟩ = some (.slice G n c) ∧ w'.cell? ⟨w.heap.size, 3, none⟩ = some (.slice O q d)) (first | exact hK.out _ D | exact hK.out _ Bq | exact hK.out _ Br | go_keep) (first | (go_at_call 81; refine (HP.out R3 c3 w3 Bq (o3.mono D.size)).mono ?_; rintro e w4 ⟨R4, c4, rfl, o4, b4⟩; have Br := Bq.trans (b4.mono Bq.size)) | (go_at_call 193; refine (HV.out).mono ?_; rintro e w3 ⟨R3, c3, rfl, o3, b3⟩; have Bq := D.trans (b3.mono D.size)))
  go_wp2_with fail
  go_ret
  exact ⟨R4, c4, rfl, o4.mono (Nat.le_trans B1.size Bq.size), B1.trans (Br.mono B1.size)⟩

end Go.Proofs.Ytnelcbjegbchkaa
