/- Which slots are proposed, rising. -/
import Derived.Test.YtjpdbhkggcojaaaEh
import Derived.Lib.SlKeysI
namespace Go.Proofs.Ytjpdbhkggcojaaa
set_option linter.unusedVariables false
open Go.RowKit Go.Deep Go.Maps

theorem keys_iff {w : World} {m q : Nat} {D : DataW Value} (h : w.ownsMap Try.prog 3 idR m q D) : (∀ x, x ∈ intKeys D ↔ Maps.has D (.int .i64 x) = true) ∧ Maps.size D = (intKeys D).length := by
  obtain ⟨es, rfl, hp, _⟩ := h.entries intLaw
  obtain ⟨es', e, hko⟩ := h.keysOf
  obtain rfl : es = es' := by simpa using e
  have hk : ∀ p ∈ es, ∃ x, p.1 = .int .i64 x := fun p hp => by
    obtain ⟨v, hv⟩ := hko p hp
    obtain ⟨x, _, hx, _⟩ := Maps.keyOf_i64 Try.underlying3 hv
    exact ⟨x, hx⟩
  refine ⟨fun x => ⟨fun hx => ?_, fun hx => ?_⟩, ?_⟩
  · obtain ⟨p, hp', rfl⟩ := List.mem_map.1 hx
    rw [has_eq, List.any_eq_true]
    obtain ⟨a, ha⟩ := hk p hp'
    exact ⟨p, hp', by rw [ha]; simp [Lit.sameKey, Go.intOf]⟩
  · rw [has_eq, List.any_eq_true] at hx
    obtain ⟨p, hp', hs⟩ := hx
    obtain ⟨a, ha⟩ := hk p hp'
    rw [ha] at hs
    have ea : a = x := by simpa [Lit.sameKey] using hs
    exact List.mem_map.2 ⟨p, hp', by rw [ha, ← ea]; simp [Go.intOf]⟩
  · show es.length = (es.map _).length
    rw [List.length_map]
theorem sortsA (k : Nat) : AnyZI.SortsIn Try.prog Try.sortedA_ren Fence.wide k :=
  ⟨fun blk off cap ss W hH hblk hsz => callsIn_wide.2 (AnyM.slices_Sort_int Try.sortA blk off cap ss W hH hblk hsz),
   fun p cap W => callsIn_wide.2 (AnyM.slices_Sort_int_none Try.sortA p cap W)⟩
theorem keysC (mb : Option Nat) (W : World) : Calls Try.prog 44 #[.map mb] W fun e w' => e = .returned (.func (.func 51) #[] #[.pointer (some ⟨W.heap.size, 0, none⟩)]) ∧ w' = W.alloc (.cells #[.map mb] 63) :=
  (callsIn_wide (n := 5)).1 (AnyZI.keys_in Try.keysA Fence.wide 5 trivial rfl mb W)

set_option maxHeartbeats 1000000 in
theorem sortedC (m q : Nat) (D : DataW Value) (w : World) (hown : w.ownsMap Try.prog 3 idR m q D) (hmax : Maps.size D ≤ maxLen) (hbytes : Maps.size D * 8 ≤ 140737488355328) :
    Calls Try.prog 43 #[.func (.func 51) #[] #[.pointer (some ⟨w.heap.size, 0, none⟩)]] (w.alloc (.cells #[.map (some m)] 63)) fun e w' => ∃ (v : Value) (ss : List Int), e = .returned v ∧ ss.Perm (intKeys D) ∧
      w'.ownsRow (w.heap.size + 1) 3 1 v ss.length ((ss.mergeSort (fun x y => decide (x ≤ y))).map encZ) ∧ (v = .slice none 0 0 ↔ ss = []) ∧ Below (w.heap.size + 1) (w.alloc (.cells #[.map (some m)] 63)) w' := by
  have hbl := hown.lt
  have hseq : SeqGives Fence.wide 2 Try.prog 51 #[.pointer (some ⟨w.heap.size, 0, none⟩)] encZ (fun ss => ss.Perm (intKeys D)) (Maps.size D) (w.alloc (.cells #[.map (some m)] 63)) :=
    AnyZI.keys_gives (ρ := Try.keysA_ren) { Try.keysA with } Fence.wide _ trivial rfl (by omega) w.heap.size m q D _ (by simp) (by simp) (by
      obtain ⟨es, clock, hb, Ft, hs, hD⟩ := hown
      exact ⟨es, clock, (Below.heap_alloc _ _ m hbl).trans hb, Ft, hs, hD⟩)
  have cS := AnyZI.sorted_in Try.sortedA Fence.wide 5 trivial trivial trivial trivial rfl (by omega) (sortsA _) (enters_of Try.func50 (by kernel_rfl) rfl) 51 #[.pointer (some ⟨w.heap.size, 0, none⟩)] trivial (enters_of Try.func51 (by kernel_rfl) rfl) _ _ hmax hbytes _ hseq
  have := (callsIn_wide (n := 5)).1 cS
  rw [show (w.alloc (.cells #[.map (some m)] 63)).heap.size = w.heap.size + 1 from by simp] at this
  exact this

/-- the slots that are proposed, rising -/
structure Sl (O : Int → Option (Pq × Value)) (cp : Nat) (ss : List Int) : Prop where
  mem : ∀ z, z ∈ ss ↔ (O z).isSome = true
  len : ss.length = cp
  le : ss.Pairwise (fun x y => x ≤ y)
theorem sorted_keys {w : World} {mp qp cp : Nat} {O : Int → Option (Pq × Value)} (h : Mm w mp qp cp (pmap O)) (hc : cp ≤ 100000) :
    Calls Try.prog 43 #[.func (.func 51) #[] #[.pointer (some ⟨w.heap.size, 0, none⟩)]] (w.alloc (.cells #[.map (some mp)] 63)) fun e w' => ∃ (v : Value) (ss : List Int), e = .returned v ∧ Sl O cp ss ∧
      w'.ownsRow w.heap.size 3 1 v cp (ss.map encI) ∧ Kp (fun _ => False) w w' := by
  obtain ⟨D, hown, hD⟩ := h
  obtain ⟨kf1, kf2⟩ := keys_iff hown
  refine (sortedC mp qp D w hown (by rw [hD.size]; unfold maxLen; omega) (by rw [hD.size]; omega)).mono fun e w' ⟨v, ss, he, hp, hrow, _, hb⟩ => ?_
  have hl : ss.length = cp := by rw [hp.length_eq, ← kf2, hD.size]
  refine ⟨v, srt ss, he, ⟨fun z => ?_, by rw [srt_len, hl], srt_le ss⟩, ?_, ?_⟩
  · rw [srt_mem, hp.mem_iff, kf1, (hD.look z (.bool false)).1, psome]
  · rw [hl] at hrow
    exact ownsRow_base hrow (by omega)
  · have hz : (w.alloc (.cells #[.map (some mp)] 63)).heap.size = w.heap.size + 1 := by simp
    rw [← hz] at hb
    exact ((Kp.refl _ _).alloc _).trans (Kp.of_below (S := fun _ => False) hb) (fun _ _ e => e)

set_option maxRecDepth 100000 in
set_option maxHeartbeats 1600000 in
theorem topen_ok {w : World} {t mb mp qb qp cb cp : Nat} {bal frm nxt : Int} {pr : List Bool} {B : Int → Option (Vo × Value)} {O : Int → Option (Pq × Value)} (h : Tr w t mb mp qb qp cb cp bal frm nxt pr B O) (hc : cp ≤ 100000) :
    Calls Try.prog 29 #[.pointer (some ⟨t, 0, none⟩)] w fun e w' => ∃ (v : Value) (ss : List Int), e = .returned v ∧ Sl O cp ss ∧ w'.ownsRow w.heap.size 3 1 v cp (ss.map encI) ∧ Kp (fun _ => False) w w' := by
  have H1 : Hid (Calls _ _ _ w _) := tmade_ok h
  have HK : Hid (∀ mb W, Calls _ _ _ W _) := keysC
  have HS : Hid (Calls _ _ _ _ _) := sorted_keys h.o hc
  have c20 := h.c20
  clear h hc
  go_enter Try.func29, Try.ntmps29
  go_wp2_with (first
    | (go_at_call 33; refine H1.out.mono ?_; rintro e w' ⟨rfl, hw'⟩; obtain rfl := hw'.symm; clear hw')
    | (go_at_call 44; refine (HK.out _ _).mono ?_; rintro e w' ⟨rfl, rfl⟩)
    | (go_at_call 43; refine HS.out.mono ?_; rintro e w3 ⟨v, ss, rfl, hsl, hrow, k3⟩))
  go_ret
  exact ⟨v, ss, rfl, hsl, hrow, k3⟩

set_option maxRecDepth 100000 in
theorem less_ok (x y : Int) (w : World) : Calls Try.prog 45 #[.int .i64 x, .int .i64 y] w fun e w' => e = .returned (.bool (decide (x < y))) ∧ w' = w := by
  have HN : Hid (∀ (z : Int) (u : World), Calls Try.prog 52 #[.int .i64 z] u fun e w' => e = .returned (.bool false) ∧ w' = u) := fun z u => by
    go_enter Try.func52, Try.ntmps52
    go_wp2
    go_ret
    exact ⟨rfl, rfl⟩
  go_enter Try.func45, Try.ntmps45
  go_wp2_with (go_at_call 52; refine (HN.out _ _).mono ?_; rintro e w' ⟨rfl, hw'⟩; obtain rfl := hw'.symm; clear hw')
  go_ret
  exact ⟨rfl, rfl⟩
end Go.Proofs.Ytjpdbhkggcojaaa
