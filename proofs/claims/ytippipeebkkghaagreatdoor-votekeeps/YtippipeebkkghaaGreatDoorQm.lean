/- Packets in a map by their numbers; whatever values they have. -/
import Derived.Test.YtippipeebkkghaaGreatDoorKb
import Derived.Deep.WholeRow
import Derived.Deep.MidRow
import Derived.Maps.OwnSet
import Derived.Maps.OwnOps
import Derived.Maps.RangeWalk
import Derived.Maps.Views
import Derived.StillTailTactics
import Derived.Lib.MinMax
import Derived.Lib.SmallJoins
namespace Go.Proofs.YtippipeebkkghaaGreatDoor
set_option linter.unusedVariables false
open Go.RowKit Go.Deep Go.Maps

/-- a value reads as itself -/
def idR (v : Value) : Option (DataW Value × List MemPlace) := some (.held v, [])
abbrev ikq (i : Nat) : Lit := .int .i64 (i : Int)
theorem ikq_inj {i j : Nat} (h : ikq i = ikq j) : i = j := by injection h with _ h; exact Int.natCast_inj.1 h
theorem ikq_lit (i : Nat) : WideAt.IsKeyLit (ikq i) := trivial
theorem intLaw : Keyed Tryz.prog 3 := int_keyed Tryz.underlying3
/-- what is there under a number -/
def Tzq (T : Nat → Option Value) (id : Int) : Option Value := if 0 ≤ id then T id.toNat else none
theorem Tzq_nat (T : Nat → Option Value) (i : Nat) : Tzq T (i : Int) = T i := by unfold Tzq; rw [if_pos (by omega), Int.toNat_natCast]

/-- what D says of keys below n: T, c of them -/
def Qd (D : DataW Value) (n c : Nat) (T : Nat → Option Value) : Prop :=
  (∀ i, i < n → (T i = none → Maps.has D (ikq i) = false) ∧ ∀ v, T i = some v → Maps.has D (ikq i) = true ∧ ∀ z, D.atKey (ikq i) z = .held v) ∧ (∀ kl, Maps.has D kl = true → ∃ i, i < n ∧ kl = ikq i) ∧ (∀ i, n ≤ i → T i = none) ∧ Maps.size D = c
/-- block m is a map of c values, under numbers below n -/
def Qm (w : World) (m q n c : Nat) (T : Nat → Option Value) : Prop := ∃ D, w.ownsMap Tryz.prog 3 idR m q D ∧ Qd D n c T
theorem Qm.lt {w : World} {m q n c : Nat} {T : Nat → Option Value} (h : Qm w m q n c T) : m < w.heap.size := by
  obtain ⟨D, h1, h2⟩ := h
  exact h1.lt
theorem Qm.keep {S : Nat → Prop} {w w' : World} {m q n c : Nat} {T : Nat → Option Value} (h : Qm w m q n c T) (k : Kp S w w') (hS : ¬ S m) : Qm w' m q n c T := by
  have hlt := h.lt
  obtain ⟨D, ⟨es, clock, hb, r⟩, h2⟩ := h
  exact ⟨D, ⟨es, clock, (k.block m hlt hS).trans hb, r⟩, h2⟩
theorem Qm.made (w : World) (n : Nat) : Qm (w.alloc (.map #[] 0)) w.heap.size 0 n 0 (fun _ => none) :=
  ⟨_, World.ownsMap_made w _ _ _, fun i _ => ⟨fun _ => rfl, fun v h => (by cases h)⟩, fun kl h => (by cases h), fun _ _ => rfl, rfl⟩
theorem Qd.put {D : DataW Value} {n c : Nat} {T : Nat → Option Value} {v : Value} (hT : Tidy D) (h : Qd D n c T) : Qd (D.put (ikq n) (.held v)) (n + 1) (c + 1) (fun j => if j = n then some v else T j) := by
  have hM := hT.isMap
  obtain ⟨h1, h2, h3, h4⟩ := h
  have hno : Maps.has D (ikq n) = false := by
    cases hh : Maps.has D (ikq n) with
    | false => rfl
    | true =>
      obtain ⟨i, hi, e⟩ := h2 _ hh
      have := ikq_inj e
      omega
  refine ⟨fun j hj => ?_, fun kl hk => ?_, fun j hj => ?_, ?_⟩
  · by_cases e : j = n
    · subst e
      simp only [if_true]
      exact ⟨fun h => (by cases h), fun u hu => (by cases hu; exact ⟨has_put_same hM (ikq_lit _) _, fun z => atKey_put_same hM (ikq_lit _) _ z⟩)⟩
    · have hne : ikq j ≠ ikq n := fun h => e (ikq_inj h)
      simp only [if_neg e]
      refine ⟨fun h => by rw [has_put_other hne]; exact (h1 j (by omega)).1 h, fun u hu => ?_⟩
      obtain ⟨b, c⟩ := (h1 j (by omega)).2 u hu
      exact ⟨by rw [has_put_other hne]; exact b, fun z => by rw [atKey_put_other hne]; exact c z⟩
  · by_cases e : kl = ikq n
    · exact ⟨n, by omega, e⟩
    · rw [has_put_other e] at hk
      obtain ⟨i, hi, e2⟩ := h2 kl hk
      exact ⟨i, by omega, e2⟩
  · show (if j = n then some v else T j) = none
    rw [if_neg (by omega)]
    exact h3 j (by omega)
  · rw [size_put hT, hno, h4]; rfl
theorem Qd.del {D : DataW Value} {n c i : Nat} {T : Nat → Option Value} {v : Value} (hT : Tidy D) (h : Qd D n c T) (hv : T i = some v) (hi : i < n) : Qd (D.del (ikq i)) n (c - 1) (fun j => if j = i then none else T j) := by
  obtain ⟨h1, h2, h3, h4⟩ := h
  have hh := ((h1 i hi).2 v hv).1
  refine ⟨fun j hj => ?_, fun kl hk => ?_, fun j hj => ?_, ?_⟩
  · by_cases e : j = i
    · subst e
      simp only [if_true]
      exact ⟨fun _ => has_del_same, fun u hu => (by cases hu)⟩
    · have hne : ikq j ≠ ikq i := fun h => e (ikq_inj h)
      simp only [if_neg e]
      refine ⟨fun h => by rw [has_del_other hne]; exact (h1 j hj).1 h, fun u hu => ?_⟩
      obtain ⟨b, c⟩ := (h1 j hj).2 u hu
      exact ⟨by rw [has_del_other hne]; exact b, fun z => by rw [atKey_del_other hne]; exact c z⟩
  · by_cases e : kl = ikq i
    · rw [e, has_del_same] at hk; cases hk
    · rw [has_del_other e] at hk
      exact h2 kl hk
  · show (if j = i then none else T j) = none
    by_cases e : j = i
    · rw [if_pos e]
    · rw [if_neg e]; exact h3 j hj
  · have := size_del hT (k := ikq i)
    rw [hh, h4] at this
    simp at this
    omega
theorem Qd.look {D : DataW Value} {n c : Nat} {T : Nat → Option Value} (h : Qd D n c T) (id : Int) (z : Value) : Maps.has D (.int .i64 id) = (Tzq T id).isSome ∧ D.atKey (.int .i64 id) (.held z) = .held ((Tzq T id).getD z) := by
  obtain ⟨h1, h2, h3, h4⟩ := h
  have absent : Maps.has D (.int .i64 id) = false → D.atKey (.int .i64 id) (.held z) = .held z := fun hh => atKey_of_not_has hh _
  unfold Tzq
  by_cases h0 : 0 ≤ id
  · rw [if_pos h0]
    obtain ⟨i, rfl⟩ : ∃ i : Nat, id = (i : Int) := ⟨id.toNat, by omega⟩
    rw [Int.toNat_natCast]
    by_cases hi : i < n
    · cases hT : T i with
      | none => exact ⟨(h1 i hi).1 hT, absent ((h1 i hi).1 hT)⟩
      | some v => exact ⟨((h1 i hi).2 v hT).1, ((h1 i hi).2 v hT).2 _⟩
    · have hT := h3 i (by omega)
      have hh : Maps.has D (.int .i64 (i : Int)) = false := by
        cases hh : Maps.has D (.int .i64 (i : Int)) with
        | false => rfl
        | true =>
          obtain ⟨j, hj, e⟩ := h2 _ hh
          have := ikq_inj e
          omega
      rw [hT]
      exact ⟨hh, absent hh⟩
  · rw [if_neg h0]
    have hh : Maps.has D (.int .i64 id) = false := by
      cases hh : Maps.has D (.int .i64 id) with
      | false => rfl
      | true =>
        obtain ⟨j, hj, e⟩ := h2 _ hh
        injection e with _ e
        omega
    exact ⟨hh, absent hh⟩
end Go.Proofs.YtippipeebkkghaaGreatDoor
