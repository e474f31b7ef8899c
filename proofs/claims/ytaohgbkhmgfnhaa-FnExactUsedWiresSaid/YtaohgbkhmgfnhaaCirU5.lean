/- The keys of the map of uses, in order. No condition beyond what each lemma names. -/
import Derived.Test.YtaohgbkhmgfnhaaCirU2
import Derived.Test.YtaohgbkhmgfnhaaCirK1
import Derived.Shelf.SlIterI.Nil
namespace Go.Proofs.Ytaohgbkhmgfnhaa
open Go.RowKit Go.Maps Go.Sort Go.Shelf
set_option maxRecDepth 100000

theorem sortsIn (m : Nat) : AnyZI.SortsIn Try.prog laysSorted_ren Fence.wide m :=
  ⟨fun blk off cap ss W hH hblk hsz => callsIn_wide.2 (AnyM.slices_Sort_int laysSort blk off cap ss W hH hblk hsz),
   fun p cap W => callsIn_wide.2 (AnyM.slices_Sort_int_none laysSort p cap W)⟩

theorem keys_any (b : Nat) (w : World) :
    Calls Try.prog 66 #[.map (some b)] w fun e w' => e = .returned (.func (.func 102) #[] #[.pointer (some ⟨w.heap.size, 0, none⟩)]) ∧ w' = w.alloc (.cells #[.map (some b)] 72) :=
  callsIn_wide.1 (AnyZI.keys_in laysKeys Fence.wide 5 trivial rfl (some b) w)

theorem keysDistinct {w : World} {b k : Nat} {D : DataW Unit} (h : w.ownsMap Try.prog 3 (plainElem Try.prog 3) b k D) {ss : List Int} (hp : ss.Perm (intKeys D)) : ss.Nodup ∧ ∀ x, x ∈ ss ↔ has D (kI x) = true := by
  obtain ⟨es, hD, hpw⟩ := h.tidy keyedInt
  obtain ⟨es', hD', hko⟩ := h.keysOf
  obtain rfl : es = es' := by rw [hD] at hD'; simpa using hD'
  subst hD
  have hk : ∀ p ∈ es, ∃ x, p.1 = .int .i64 x := fun p hp => by obtain ⟨v, hv⟩ := hko p hp; obtain ⟨x, _, hx, _⟩ := Maps.keyOf_i64 Try.underlying3 hv; exact ⟨x, hx⟩
  have hnd : (intKeys (.map es : DataW Unit)).Nodup := by
    unfold intKeys
    refine List.pairwise_map.2 (hpw.imp_of_mem fun {p q} hp' hq' hne e => hne ?_)
    obtain ⟨a, ha⟩ := hk p hp'
    obtain ⟨b, hb⟩ := hk q hq'
    rw [ha, hb] at e ⊢
    exact congrArg _ e
  refine ⟨(hp.nodup_iff).2 hnd, fun x => ?_⟩
  rw [hp.mem_iff, has_eq, List.any_eq_true]
  unfold intKeys
  rw [List.mem_map]
  constructor
  · rintro ⟨p, hp', rfl⟩
    obtain ⟨a, ha⟩ := hk p hp'
    exact ⟨p, hp', by rw [ha]; simp [Lit.sameKey, Go.intOf, kI]⟩
  · rintro ⟨p, hp', hs⟩
    obtain ⟨a, ha⟩ := hk p hp'
    rw [ha] at hs
    exact ⟨p, hp', by rw [ha]; simpa [Lit.sameKey, Go.intOf, kI] using hs⟩

theorem sortRises {ss : List Int} (hnd : ss.Nodup) : (ss.mergeSort (fun x y => decide (x ≤ y))).Pairwise (· < ·) := by
  have tr : ∀ a b c : Int, decide (a ≤ b) = true → decide (b ≤ c) = true → decide (a ≤ c) = true := fun a b c h1 h2 => by simp only [decide_eq_true_eq] at *; exact Int.le_trans h1 h2
  have to : ∀ a b : Int, (decide (a ≤ b) || decide (b ≤ a)) = true := fun a b => by simp only [Bool.or_eq_true, decide_eq_true_eq]; exact Int.le_total a b
  have h1 := List.pairwise_mergeSort tr to ss
  have h2 : (ss.mergeSort (fun x y => decide (x ≤ y))).Nodup := ((List.mergeSort_perm ss _).nodup_iff).2 hnd
  refine (h1.and h2).imp fun {a b} h => ?_
  obtain ⟨h3, h4⟩ := h
  simp only [decide_eq_true_eq] at h3
  omega

set_option maxHeartbeats 1000000 in
theorem sortedKeys_any (b k q : Nat) (L : List Int) (w : World) (hq : w.cell? ⟨q, 0, none⟩ = some (.map (some b))) (h : MapL w b k L) (hk : k ≤ 65536) :
    Calls Try.prog 65 #[.func (.func 102) #[] #[.pointer (some ⟨q, 0, none⟩)]] w fun e w' => ∃ R m c' rs, e = .returned (.slice R m c') ∧ Own w' w.heap.size R m c' rs ∧ rs.Pairwise (· < ·) ∧ (∀ y, y ∈ rs ↔ y ∈ L) ∧ m ≤ 65536 ∧ Below w.heap.size w w' := by
  obtain ⟨D, hown, hat, hhas⟩ := h
  have hsz := hown.size_le
  have hmax : Maps.size D ≤ maxLen := by unfold maxLen; omega
  have hbytes : Maps.size D * 8 ≤ 140737488355328 := by omega
  have hseq : SeqGives Fence.wide 2 Try.prog 102 #[.pointer (some ⟨q, 0, none⟩)] encZ (fun ss => ss.Perm (intKeys D)) (Maps.size D) w :=
    AnyZI.keys_gives (ρ := laysKeys_ren) { laysKeys with } Fence.wide _ trivial rfl (by omega) q b k D _ (World.block_lt_of_cell? _ _ hq) hq hown
  have cS := AnyZI.sorted_in laysSorted Fence.wide 5 trivial trivial trivial trivial rfl (by omega) (sortsIn _) (enters_of Try.func101 (by kernel_rfl) rfl) 102 #[.pointer (some ⟨q, 0, none⟩)] trivial (enters_of Try.func102 (by kernel_rfl) rfl) _ _ hmax hbytes _ hseq
  change CallsIn _ _ Try.prog 65 _ _ _ at cS
  refine (callsIn_wide.1 cS).mono ?_
  rintro e w' ⟨v, ss, rfl, hS, hrow, hnil, hb⟩
  obtain ⟨hnd, hmem⟩ := keysDistinct hown hS
  have hlen : ss.length ≤ 65536 := by
    have e1 := hS.length_eq
    obtain ⟨es, hD, _⟩ := hown.tidy keyedInt
    rw [hD] at e1 hsz
    have e2 : (intKeys (.map es : DataW Unit)).length = es.length := List.length_map ..
    have e3 : Maps.size (.map es : DataW Unit) = es.length := rfl
    omega
  obtain ⟨R, c', rfl, ho⟩ := ownOf (zs := ss.mergeSort (fun x y => decide (x ≤ y))) (B := w.heap.size) (v := v) (n := ss.length) hrow
  refine ⟨R, ss.length, c', _, rfl, ho, sortRises hnd, fun y => ?_, hlen, hb⟩
  rw [(List.mergeSort_perm ss _).mem_iff, hmem y, hhas y, decide_eq_true_eq]
end Go.Proofs.Ytaohgbkhmgfnhaa
