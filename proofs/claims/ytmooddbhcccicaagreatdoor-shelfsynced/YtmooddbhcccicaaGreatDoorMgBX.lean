/- Texts of this proof, joined: Pk, Sc. -/
import Derived.Test.YtmooddbhcccicaaGreatDoorMgAJ
import Derived.Test.YtmooddbhcccicaaGreatDoorMgBW
import Derived.Lib.SlKeysI
import Derived.Test.YtmooddbhcccicaaGreatDoorMgBG
import Derived.Test.YtmooddbhcccicaaGreatDoorMgBA
import Derived.Test.YtmooddbhcccicaaGreatDoorMgBN
/- The walk of a plate's Dirty: the keys of the map, sorted. -/
namespace Go.Proofs.YtmooddbhcccicaaGreatDoor
open Go.RowKit Go.Deep Go.Maps

theorem nodup_le : ∀ (n : Nat) (l : List Int), l.Nodup → (∀ x ∈ l, 0 ≤ x ∧ x < (n : Int)) → l.length ≤ n
  | 0, l, _, h => by
    cases l with
    | nil => exact Nat.le_refl _
    | cons x l => have := h x List.mem_cons_self; omega
  | n + 1, l, hn, h => by
    by_cases hm : (n : Int) ∈ l
    · have h1 := nodup_le n (l.erase (n : Int)) (hn.erase _) (fun x hx => by
        have hx' := (hn.mem_erase_iff).1 hx
        have := h x hx'.2
        have := hx'.1
        omega)
      rw [List.length_erase_of_mem hm] at h1
      omega
    · have := nodup_le n l hn (fun x hx => by
        have := h x hx
        have hne : x ≠ (n : Int) := fun e => hm (e ▸ hx)
        omega)
      omega
theorem keys_facts {w : World} {m q : Nat} {D : DataW (List Nat)} (h : w.ownsMap Tryz.prog 3 secR m q D) : (intKeys D).Nodup ∧ (∀ x, x ∈ intKeys D ↔ Maps.has D (.int .i64 x) = true) ∧ Maps.size D = (intKeys D).length := by
  obtain ⟨es, rfl, hp, _⟩ := h.entries keyLaw
  obtain ⟨es', e, hko⟩ := h.keysOf
  obtain rfl : es = es' := by simpa using e
  have hk : ∀ p ∈ es, ∃ x, p.1 = .int .i64 x := fun p hp => by
    obtain ⟨v, hv⟩ := hko p hp
    obtain ⟨x, _, hx, _⟩ := Maps.keyOf_i64 Tryz.underlying3 hv
    exact ⟨x, hx⟩
  refine ⟨?_, fun x => ?_, ?_⟩
  · show (es.map fun p => Go.intOf p.1).Nodup
    refine List.pairwise_map.2 (hp.imp_of_mem fun {p q} hp' hq' hne e => hne ?_)
    obtain ⟨a, ha⟩ := hk p hp'
    obtain ⟨b, hb⟩ := hk q hq'
    rw [ha, hb] at e ⊢
    exact congrArg _ e
  · show x ∈ es.map (fun p => Go.intOf p.1) ↔ _
    rw [has_eq, List.any_eq_true, List.mem_map]
    constructor
    · rintro ⟨p, hp', rfl⟩
      obtain ⟨a, ha⟩ := hk p hp'
      exact ⟨p, hp', by rw [ha]; simp [Lit.sameKey, Go.intOf]⟩
    · rintro ⟨p, hp', hs⟩
      obtain ⟨a, ha⟩ := hk p hp'
      rw [ha] at hs
      exact ⟨p, hp', by rw [ha]; simpa [Lit.sameKey, Go.intOf] using hs⟩
  · show es.length = (es.map _).length
    rw [List.length_map]

/-- slices.Sort's two contracts, at the fence that asks nothing. -/
theorem sortsA (k : Nat) : AnyZI.SortsIn Tryz.prog Tryz.sortedA_ren Fence.wide k :=
  ⟨fun blk off cap ss W hH hblk hsz => callsIn_wide.2 (AnyM.slices_Sort_int Tryz.sortA blk off cap ss W hH hblk hsz),
   fun p cap W => callsIn_wide.2 (AnyM.slices_Sort_int_none Tryz.sortA p cap W)⟩
/-- which sectors are dirty, in their order -/
def dks (T : Nat → Option (List Nat)) (n : Nat) : List Int := List.map (fun i : Nat => (i : Int)) ((List.range n).filter fun i => (T i).isSome)
theorem mem_dks {T : Nat → Option (List Nat)} {n : Nat} {x : Int} : x ∈ dks T n ↔ ∃ i : Nat, i < n ∧ (T i).isSome = true ∧ (i : Int) = x := by
  unfold dks
  simp only [List.mem_map, List.mem_filter, List.mem_range, and_assoc]
theorem dks_sorted (T : Nat → Option (List Nat)) (n : Nat) : (dks T n).Pairwise (fun a b => a < b) := by
  unfold dks
  refine List.pairwise_map.2 ((List.pairwise_lt_range.filter _).imp (fun {a b} h => ?_))
  omega
theorem dks_nodup (T : Nat → Option (List Nat)) (n : Nat) : (dks T n).Nodup := (dks_sorted T n).imp (fun {a b} h => by omega)
theorem dks_len (T : Nat → Option (List Nat)) (n : Nat) : (dks T n).length ≤ n := nodup_le n _ (dks_nodup T n) (fun x hx => by obtain ⟨i, hi, _, rfl⟩ := mem_dks.1 hx; omega)
theorem dks_eq {T : Nat → Option (List Nat)} {n : Nat} {l : List Int} (hn : l.Nodup) (hm : ∀ x, x ∈ l ↔ x ∈ dks T n) : l.mergeSort (fun x y => decide (x ≤ y)) = dks T n := by
  have hp : l.Perm (dks T n) := (List.perm_ext_iff_of_nodup hn (dks_nodup T n)).2 hm
  have tr : ∀ a b c : Int, decide (a ≤ b) = true → decide (b ≤ c) = true → decide (a ≤ c) = true := fun a b c h1 h2 => by simp only [decide_eq_true_eq] at *; omega
  have to : ∀ a b : Int, (decide (a ≤ b) || decide (b ≤ a)) = true := fun a b => by simp only [Bool.or_eq_true, decide_eq_true_eq]; omega
  refine List.Perm.eq_of_pairwise (le := fun a b => decide (a ≤ b) = true) (fun a b _ _ h1 h2 => ?_) (List.pairwise_mergeSort tr to l) ((dks_sorted T n).imp (fun {a b} h => by simp only [decide_eq_true_eq]; omega)) ((List.mergeSort_perm l _).trans hp)
  simp only [decide_eq_true_eq] at h1 h2
  omega
theorem keysC (mb : Option Nat) (W : World) : Calls Tryz.prog 54 #[.map mb] W fun e w' => e = .returned (.func (.func 99) #[] #[.pointer (some ⟨W.heap.size, 0, none⟩)]) ∧ w' = W.alloc (.cells #[.map mb] 101) :=
  (callsIn_wide (n := 5)).1 (AnyZI.keys_in Tryz.keysA Fence.wide 5 trivial rfl mb W)

set_option maxHeartbeats 1000000 in
theorem sortedC (m q : Nat) (D : DataW (List Nat)) (w : World) (hown : w.ownsMap Tryz.prog 3 secR m q D) (hmax : Maps.size D ≤ maxLen) (hbytes : Maps.size D * 8 ≤ 140737488355328) :
    Calls Tryz.prog 53 #[.func (.func 99) #[] #[.pointer (some ⟨w.heap.size, 0, none⟩)]] (w.alloc (.cells #[.map (some m)] 101)) fun e w' => ∃ (v : Value) (ss : List Int), e = .returned v ∧ ss.Perm (intKeys D) ∧
      w'.ownsRow (w.heap.size + 1) 3 1 v ss.length ((ss.mergeSort (fun x y => decide (x ≤ y))).map encZ) ∧ (v = .slice none 0 0 ↔ ss = []) ∧ Below (w.heap.size + 1) (w.alloc (.cells #[.map (some m)] 101)) w' := by
  have hbl := hown.lt
  have hseq : SeqGives Fence.wide 2 Tryz.prog 99 #[.pointer (some ⟨w.heap.size, 0, none⟩)] encZ (fun ss => ss.Perm (intKeys D)) (Maps.size D) (w.alloc (.cells #[.map (some m)] 101)) :=
    AnyZI.keys_gives (ρ := Tryz.keysA_ren) { Tryz.keysA with } Fence.wide _ trivial rfl (by omega) w.heap.size m q D _ (by simp) (by simp) (by
      obtain ⟨es, clock, hb, Ft, hs, hD⟩ := hown
      exact ⟨es, clock, (Below.heap_alloc _ _ m hbl).trans hb, Ft, hs, hD⟩)
  have cS := AnyZI.sorted_in Tryz.sortedA Fence.wide 5 trivial trivial trivial trivial rfl (by omega) (sortsA _) (enters_of Tryz.func98 (by kernel_rfl) rfl) 99 #[.pointer (some ⟨w.heap.size, 0, none⟩)] trivial (enters_of Tryz.func99 (by kernel_rfl) rfl) _ _ hmax hbytes _ hseq
  have := (callsIn_wide (n := 5)).1 cS
  rw [show (w.alloc (.cells #[.map (some m)] 101)).heap.size = w.heap.size + 1 from by simp] at this
  exact this

/-- numbers of one's own, in their order -/
def Is (w : World) (base : Nat) (v : Value) (xs : List Int) : Prop := w.ownsRow base 3 1 v xs.length (xs.map encZ)

set_option maxRecDepth 100000 in
set_option maxHeartbeats 800000 in
theorem dirty_ok {w : World} {b d m n q : Nat} {dur : List Nat} {T : Nat → Option (List Nat)} (h : Pt w b d m n q dur T) :
    Calls Tryz.prog 25 #[.pointer (some ⟨b, 0, none⟩)] w fun e w' => ∃ v, e = .returned v ∧ Kp (fun _ => False) w w' ∧ Is w' w.heap.size v (dks T n) := by
  have H : Hid (Calls _ _ _ w _) := state_ok h
  have c2 := h.c2
  obtain ⟨D, hown, hDD⟩ := h.mp
  obtain ⟨kf1, kf2, kf3⟩ := keys_facts hown
  have hmem : ∀ x, x ∈ intKeys D ↔ x ∈ dks T n := fun x => by
    rw [kf2, mem_dks]
    constructor
    · intro hx
      obtain ⟨i, hi, e⟩ := hDD.2.1 _ hx
      injection e with _ e
      refine ⟨i, hi, ?_, e.symm⟩
      cases hT : T i with
      | none => have := (hDD.1 i hi).1 hT; rw [e] at hx; rw [hx] at this; cases this
      | some xs => rfl
    · rintro ⟨i, hi, hs, rfl⟩
      obtain ⟨xs, hT⟩ := Option.isSome_iff_exists.1 hs
      exact ((hDD.1 i hi).2 xs hT).2.1
  have hsz : Maps.size D ≤ 8192 := by
    have h1 := nodup_le n _ kf1 (fun x hx => by obtain ⟨i, hi, _, rfl⟩ := mem_dks.1 ((hmem x).1 hx); omega)
    have := h.n2
    omega
  have HK : Hid (∀ mb W, Calls _ _ _ W _) := keysC
  have HS : Hid (Calls _ _ _ _ _) := sortedC m q D w hown (by unfold maxLen; omega) (by omega)
  have HM : Hid (∀ ss : List Int, ss.Perm (intKeys D) → ss.mergeSort (fun x y => decide (x ≤ y)) = dks T n) := fun ss hp => dks_eq (hp.nodup_iff.2 kf1) (fun x => (hp.mem_iff).trans (hmem x))
  clear h hown hDD kf1 kf2 kf3 hmem hsz
  go_enter Tryz.func25, Tryz.ntmps25
  go_wp2_with (first
    | (go_at_call 51; refine H.out.mono ?_; rintro e w' ⟨rfl, hw⟩; obtain rfl := hw.symm)
    | (go_at_call 54; refine (HK.out _ _).mono ?_; rintro e w1 ⟨rfl, rfl⟩)
    | (go_at_call 53; refine HS.out.mono ?_; rintro e w2 ⟨v, ss, rfl, hp, hrow, hnil, hb⟩))
  go_ret
  refine ⟨v, rfl, ?_, ?_⟩
  · have hz : (w.alloc (.cells #[.map (some m)] 101)).heap.size = w.heap.size + 1 := by simp
    rw [← hz] at hb
    exact ((Kp.refl _ _).alloc _).trans (Kp.of_below (S := fun _ => False) hb) (fun _ _ e => e)
  · have hl : ss.length = (dks T n).length := by rw [← HM.out ss hp, List.length_mergeSort]
    rw [HM.out ss hp, hl] at hrow
    exact ownsRow_base hrow (by omega)
end Go.Proofs.YtmooddbhcccicaaGreatDoor

/- What a crash leaves of each sector; texts of images. -/
namespace Go.Proofs.YtmooddbhcccicaaGreatDoor
open Go.RowKit Go.Deep Go.Maps

theorem Rt.congr {w : World} {t n : Nat} {N N' : Nat → List Nat} (h : Rt w t n N) (e : ∀ r, r < n → N r = N' r) : Rt w t n N' := by
  obtain ⟨cp, V, h1, h2, h3⟩ := h
  refine ⟨cp, V, h1, h2, fun r hr => ?_⟩
  rw [← e r hr]
  exact h3 r hr
theorem rt_image {w : World} {t n : Nat} {V : Nat → Value} {dur : List Nat} (hb : ∀ x ∈ dur, x < 256) (hr : w.rowIs t 34 n V) (ho : ∀ r, r < n → Ow w (t + 1) (V r) ((dur.drop (r * 64)).take 64)) : Rt w t n (secOf dur) := by
  refine ⟨n, V, Nat.le_refl _, hr, fun r hr => ?_⟩
  obtain ⟨p, c, ev, _, rb, _⟩ := (ho r hr).rb (fun x hx => hb x (List.mem_of_mem_drop (List.mem_of_mem_take hx)))
  exact ⟨p, _, c, ev, rb⟩
theorem Nows.rt {w : World} {b d m t n : Nat} {V : Nat → Value} {N : Nat → List Nat} (h : Nows w b d m t n V N) : Rt w t n N :=
  ⟨n, V, Nat.le_refl _, h.top, fun r hr => by obtain ⟨bb, o, c, h1, h2, _⟩ := h.row r hr; exact ⟨_, _, c, h1, h2⟩⟩
theorem Wv.rt {w : World} {b d m t t2 : Nat} {N : Nat → List Nat} (h : Wv w b d m t t2 N) : Rt w t2 6 N := by
  obtain ⟨cp, V, h1, h2, h3⟩ := h.top
  exact ⟨cp, V, h1, h2, fun r hr => by obtain ⟨bb, o, c, h1, _, h2, _⟩ := h3 r hr; exact ⟨_, _, c, h1, h2⟩⟩
theorem wf_nat (i : Nat) (h : i < 1000000) : (Lit.int .i64 (i : Int)).wf = true := by have := WalkArith.wf_i64 (n := (i : Int)) (by omega); exact this
theorem Is.rz {w : World} {base : Nat} {v : Value} {zs : List Int} (h : Is w base v zs) : ∃ p c, v = .slice p zs.length c ∧ Rz w p zs ∧ ∀ a, p = some a → base ≤ a.block ∧ v.ownBlock = some a.block := by
  rcases h.2 with ⟨rfl, h0⟩ | ⟨g, cap, cur, rfl, hb, hh, hn, _, hcs, htk⟩
  · have : zs = [] := List.eq_nil_of_length_eq_zero h0
    subst this
    exact ⟨none, 0, rfl, fun j hj => absurd hj (Nat.not_lt_zero _), fun a e => by cases e⟩
  · refine ⟨_, cap, rfl, fun j hj => ⟨g, 0, rfl, ?_⟩, fun a e => by cases e; exact ⟨hb, rfl⟩⟩
    have h1 : (cur.toList.take (zs.length * 1))[j]? = some (.int .i64 (zs.getD j 0)) := by
      rw [htk, List.getElem?_map, List.getD_eq_getElem?_getD, List.getElem?_eq_getElem hj]; rfl
    rw [List.getElem?_take_of_lt (by omega), Array.getElem?_toList] at h1
    rw [Nat.zero_add]
    simp [World.cell?, hh, h1]
theorem Rz.keep {S : Nat → Prop} {w w' : World} {p : Option Addr} {zs : List Int} (h : Rz w p zs) (k : Kp S w w') (hS : ∀ a, p = some a → ¬ S a.block) : Rz w' p zs := fun j hj => by
  obtain ⟨b, o, rfl, hc⟩ := h j hj
  exact ⟨b, o, rfl, k.cellv hc (hS ⟨b, o, none⟩ rfl)⟩
end Go.Proofs.YtmooddbhcccicaaGreatDoor
