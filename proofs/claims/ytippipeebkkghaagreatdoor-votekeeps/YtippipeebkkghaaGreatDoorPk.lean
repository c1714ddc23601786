/- The walk of a plate's Dirty: the keys of the map, sorted. -/
import Derived.Test.YtippipeebkkghaaGreatDoorPl4
import Derived.Test.YtippipeebkkghaaGreatDoorSh
import Derived.Lib.SlKeysI
namespace Go.Proofs.YtippipeebkkghaaGreatDoor
open Go.RowKit Go.Deep Go.Maps

theorem nodup_le : ∀ (n : Nat) (l : List Int), l.Nodup → (∀ x ∈ l, 0 ≤ x ∧ x < (n : Int)) → l.length ≤ n
  | 0, l, _, h => by
    cases l with
    | nil => exact Nat.le_refl _
    | cons x l => have := h x List.mem_cons_self; omega
  | n + 1, l, hn, h => by
    by_cases hm : (n : Int) ∈ l
    · have h1 := nodup_le n (l.erase (n : Int)) (hn.erase _) (fun x hx => by
        have hx' := (hn.mem_erase_iff).1 hx
        have := h x hx'.2
        have := hx'.1
        omega)
      rw [List.length_erase_of_mem hm] at h1
      omega
    · have := nodup_le n l hn (fun x hx => by
        have := h x hx
        have hne : x ≠ (n : Int) := fun e => hm (e ▸ hx)
        omega)
      omega
theorem keys_facts {w : World} {m q : Nat} {D : DataW (List Nat)} (h : w.ownsMap Tryz.prog 3 secR m q D) : (intKeys D).Nodup ∧ (∀ x, x ∈ intKeys D ↔ Maps.has D (.int .i64 x) = true) ∧ Maps.size D = (intKeys D).length := by
  obtain ⟨es, rfl, hp, _⟩ := h.entries keyLaw
  obtain ⟨es', e, hko⟩ := h.keysOf
  obtain rfl : es = es' := by simpa using e
  have hk : ∀ p ∈ es, ∃ x, p.1 = .int .i64 x := fun p hp => by
    obtain ⟨v, hv⟩ := hko p hp
    obtain ⟨x, _, hx, _⟩ := Maps.keyOf_i64 Tryz.underlying3 hv
    exact ⟨x, hx⟩
  refine ⟨?_, fun x => ?_, ?_⟩
  · show (es.map fun p => Go.intOf p.1).Nodup
    refine List.pairwise_map.2 (hp.imp_of_mem fun {p q} hp' hq' hne e => hne ?_)
    obtain ⟨a, ha⟩ := hk p hp'
    obtain ⟨b, hb⟩ := hk q hq'
    rw [ha, hb] at e ⊢
    exact congrArg _ e
  · show x ∈ es.map (fun p => Go.intOf p.1) ↔ _
    rw [has_eq, List.any_eq_true, List.mem_map]
    constructor
    · rintro ⟨p, hp', rfl⟩
      obtain ⟨a, ha⟩ := hk p hp'
      exact ⟨p, hp', by rw [ha]; simp [Lit.sameKey, Go.intOf]⟩
    · rintro ⟨p, hp', hs⟩
      obtain ⟨a, ha⟩ := hk p hp'
      rw [ha] at hs
      exact ⟨p, hp', by rw [ha]; simpa [Lit.sameKey, Go.intOf] using hs⟩
  · show es.length = (es.map _).length
    rw [List.length_map]

/-- slices.Sort's two contracts, at the fence that asks nothing. -/
theorem sortsA (k : Nat) : AnyZI.SortsIn Tryz.prog Tryz.sortedA_ren Fence.wide k :=
  ⟨fun blk off cap ss W hH hblk hsz => callsIn_wide.2 (AnyM.slices_Sort_int Tryz.sortA blk off cap ss W hH hblk hsz),
   fun p cap W => callsIn_wide.2 (AnyM.slices_Sort_int_none Tryz.sortA p cap W)⟩
/-- which sectors are dirty, in their order -/
def dks (T : Nat → Option (List Nat)) (n : Nat) : List Int := List.map (fun i : Nat => (i : Int)) ((List.range n).filter fun i => (T i).isSome)
theorem mem_dks {T : Nat → Option (List Nat)} {n : Nat} {x : Int} : x ∈ dks T n ↔ ∃ i : Nat, i < n ∧ (T i).isSome = true ∧ (i : Int) = x := by
  unfold dks
  simp only [List.mem_map, List.mem_filter, List.mem_range, and_assoc]
theorem dks_sorted (T : Nat → Option (List Nat)) (n : Nat) : (dks T n).Pairwise (fun a b => a < b) := by
  unfold dks
  refine List.pairwise_map.2 ((List.pairwise_lt_range.filter _).imp (fun {a b} h => ?_))
  omega
theorem dks_nodup (T : Nat → Option (List Nat)) (n : Nat) : (dks T n).Nodup := (dks_sorted T n).imp (fun {a b} h => by omega)
theorem dks_len (T : Nat → Option (List Nat)) (n : Nat) : (dks T n).length ≤ n := nodup_le n _ (dks_nodup T n) (fun x hx => by obtain ⟨i, hi, _, rfl⟩ := mem_dks.1 hx; omega)
theorem dks_eq {T : Nat → Option (List Nat)} {n : Nat} {l : List Int} (hn : l.Nodup) (hm : ∀ x, x ∈ l ↔ x ∈ dks T n) : l.mergeSort (fun x y => decide (x ≤ y)) = dks T n := by
  have hp : l.Perm (dks T n) := (List.perm_ext_iff_of_nodup hn (dks_nodup T n)).2 hm
  have tr : ∀ a b c : Int, decide (a ≤ b) = true → decide (b ≤ c) = true → decide (a ≤ c) = true := fun a b c h1 h2 => by simp only [decide_eq_true_eq] at *; omega
  have tt9 : ∀ a b : Int, (decide (a ≤ b) || decide (b ≤ a)) = true := fun a b => by simp only [Bool.or_eq_true, decide_eq_true_eq]; omega
  refine List.Perm.eq_of_pairwise (le := fun a b => decide (a ≤ b) = true) (fun a b _ _ h1 h2 => ?_) (List.pairwise_mergeSort tr tt9 l) ((dks_sorted T n).imp (fun {a b} h => by simp only [decide_eq_true_eq]; omega)) ((List.mergeSort_perm l _).trans hp)
  simp only [decide_eq_true_eq] at h1 h2
  omega
theorem keysC (mb : Option Nat) (W : World) : Calls Tryz.prog 28 #[.map mb] W fun e w' => e = .returned (.func (.func 57) #[] #[.pointer (some ⟨W.heap.size, 0, none⟩)]) ∧ w' = W.alloc (.cells #[.map mb] 81) :=
  (callsIn_wide (n := 5)).1 (AnyZI.keys_in Tryz.keysA Fence.wide 5 trivial rfl mb W)

set_option maxHeartbeats 1000000 in
theorem sortedC (m q : Nat) (D : DataW (List Nat)) (w : World) (hown : w.ownsMap Tryz.prog 3 secR m q D) (hmax : Maps.size D ≤ maxLen) (hbytes : Maps.size D * 8 ≤ 140737488355328) :
    Calls Tryz.prog 27 #[.func (.func 57) #[] #[.pointer (some ⟨w.heap.size, 0, none⟩)]] (w.alloc (.cells #[.map (some m)] 81)) fun e w' => ∃ (v : Value) (ss : List Int), e = .returned v ∧ ss.Perm (intKeys D) ∧
      w'.ownsRow (w.heap.size + 1) 3 1 v ss.length ((ss.mergeSort (fun x y => decide (x ≤ y))).map encZ) ∧ (v = .slice none 0 0 ↔ ss = []) ∧ Below (w.heap.size + 1) (w.alloc (.cells #[.map (some m)] 81)) w' := by
  have hbl := hown.lt
  have hseq : SeqGives Fence.wide 2 Tryz.prog 57 #[.pointer (some ⟨w.heap.size, 0, none⟩)] encZ (fun ss => ss.Perm (intKeys D)) (Maps.size D) (w.alloc (.cells #[.map (some m)] 81)) :=
    AnyZI.keys_gives (ρ := Tryz.keysA_ren) { Tryz.keysA with } Fence.wide _ trivial rfl (by omega) w.heap.size m q D _ (by simp) (by simp) (by
      obtain ⟨es, clock, hb, Ft, hs, hD⟩ := hown
      exact ⟨es, clock, (Below.heap_alloc _ _ m hbl).trans hb, Ft, hs, hD⟩)
  have cS := AnyZI.sorted_in Tryz.sortedA Fence.wide 5 trivial trivial trivial trivial rfl (by omega) (sortsA _) (enters_of Tryz.func56 (by kernel_rfl) rfl) 57 #[.pointer (some ⟨w.heap.size, 0, none⟩)] trivial (enters_of Tryz.func57 (by kernel_rfl) rfl) _ _ hmax hbytes _ hseq
  have := (callsIn_wide (n := 5)).1 cS
  rw [show (w.alloc (.cells #[.map (some m)] 81)).heap.size = w.heap.size + 1 from by simp] at this
  exact this

/-- numbers of one's own, in their order -/
def Is (w : World) (base : Nat) (v : Value) (xs : List Int) : Prop := w.ownsRow base 3 1 v xs.length (xs.map encZ)

set_option maxRecDepth 100000 in
set_option maxHeartbeats 800000 in
theorem dirty_ok {w : World} {b d m n q : Nat} {dur : List Nat} {T : Nat → Option (List Nat)} (h : Pt w b d m n q dur T) :
    Calls Tryz.prog 9 #[.pointer (some ⟨b, 0, none⟩)] w fun e w' => ∃ v, e = .returned v ∧ Kp (fun _ => False) w w' ∧ Is w' w.heap.size v (dks T n) := by
  have H : Hid (Calls _ _ _ w _) := state_ok h
  have c2 := h.c2
  obtain ⟨D, hown, hDD⟩ := h.mp
  obtain ⟨kf1, kf2, kf3⟩ := keys_facts hown
  have hmem : ∀ x, x ∈ intKeys D ↔ x ∈ dks T n := fun x => by
    rw [kf2, mem_dks]
    constructor
    · intro hx
      obtain ⟨i, hi, e⟩ := hDD.2.1 _ hx
      injection e with _ e
      refine ⟨i, hi, ?_, e.symm⟩
      cases hT : T i with
      | none => have := (hDD.1 i hi).1 hT; rw [e] at hx; rw [hx] at this; cases this
      | some xs => rfl
    · rintro ⟨i, hi, hs, rfl⟩
      obtain ⟨xs, hT⟩ := Option.isSome_iff_exists.1 hs
      exact ((hDD.1 i hi).2 xs hT).2.1
  have hsz : Maps.size D ≤ 8192 := by
    have h1 := nodup_le n _ kf1 (fun x hx => by obtain ⟨i, hi, _, rfl⟩ := mem_dks.1 ((hmem x).1 hx); omega)
    have := h.n2
    omega
  have HK : Hid (∀ mb W, Calls _ _ _ W _) := keysC
  have HS : Hid (Calls _ _ _ _ _) := sortedC m q D w hown (by unfold maxLen; omega) (by omega)
  have HM : Hid (∀ ss : List Int, ss.Perm (intKeys D) → ss.mergeSort (fun x y => decide (x ≤ y)) = dks T n) := fun ss hp => dks_eq (hp.nodup_iff.2 kf1) (fun x => (hp.mem_iff).trans (hmem x))
  clear h hown hDD kf1 kf2 kf3 hmem hsz
  go_enter Tryz.func9, Tryz.ntmps9
  go_wp2_with (first
    | (go_at_call 25; refine H.out.mono ?_; rintro e w' ⟨rfl, hw⟩; obtain rfl := hw.symm)
    | (go_at_call 28; refine (HK.out _ _).mono ?_; rintro e w1 ⟨rfl, rfl⟩)
    | (go_at_call 27; refine HS.out.mono ?_; rintro e w2 ⟨v, ss, rfl, hp, hrow, hnil, hb⟩))
  go_ret
  refine ⟨v, rfl, ?_, ?_⟩
  · have hz : (w.alloc (.cells #[.map (some m)] 81)).heap.size = w.heap.size + 1 := by simp
    rw [← hz] at hb
    exact ((Kp.refl _ _).alloc _).trans (Kp.of_below (S := fun _ => False) hb) (fun _ _ e => e)
  · have hl : ss.length = (dks T n).length := by rw [← HM.out ss hp, List.length_mergeSort]
    rw [HM.out ss hp, hl] at hrow
    exact ownsRow_base hrow (by omega)
end Go.Proofs.YtippipeebkkghaaGreatDoor
