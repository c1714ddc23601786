/- Shards sorted, in memory. -/
import Derived.Test.YtnpaoppfhffoiaaJr
namespace Go.Proofs.Ytnpaoppfhffoiaa
set_option linter.unusedVariables false
open Go.RowKit Go.Deep Go.Maps Go.Shelf Go.Lib Go.Sort

theorem kp_sortW {α : Type} [Inhabited α] (enc : α → List Value) (k : Nat) (w : World) (blk off n : Nat) (d : Array α) (os : Array Obj) : Kp (fun b => b = blk) w (sortWorldK enc k w blk off n d os) := by
  unfold sortWorldK grow putRowK putRow mapBlock Sort.ahead
  refine ⟨rfl, rfl, rfl, by simp, fun b hb hn => ?_⟩
  dsimp only
  rw [Array.getElem?_append_left (by simpa using hb)]
  rw [Array.getElem?_modify, if_neg (fun e => hn e.symm)]
theorem pflat_len : ∀ l : List (Int × Int), (pflat l).length = l.length * 2
  | [] => rfl
  | x :: l => by show (encP x ++ pflat l).length = (l.length + 1) * 2; rw [List.length_append, pflat_len l]; simp [encP]; omega
theorem pflat_get : ∀ (l : List (Int × Int)) (j : Nat), j < l.length → (pflat l)[j * 2]? = some (.int .i64 (l.getD j (0, 0)).1) ∧ (pflat l)[j * 2 + 1]? = some (.int .i64 (l.getD j (0, 0)).2)
  | [], j, h => absurd h (Nat.not_lt_zero _)
  | x :: l, 0, _ => ⟨rfl, rfl⟩
  | x :: l, j + 1, h => by
    have := pflat_get l j (by simpa using h)
    refine ⟨?_, ?_⟩
    · show (_ :: _ :: pflat l)[(j + 1) * 2]? = _
      rw [show (j + 1) * 2 = j * 2 + 1 + 1 by omega, List.getElem?_cons_succ, List.getElem?_cons_succ, this.1]; rfl
    · show (_ :: _ :: pflat l)[(j + 1) * 2 + 1]? = _
      rw [show (j + 1) * 2 + 1 = (j * 2 + 1) + 1 + 1 by omega, List.getElem?_cons_succ, List.getElem?_cons_succ, this.2]; rfl
theorem pflat_append (l m : List (Int × Int)) : pflat (l ++ m) = pflat l ++ pflat m := by unfold pflat; rw [List.flatMap_append]
/-- pairs as a slice that can be read, in blocks of which Z holds -/
def Pr (w : World) (Z : Nat → Prop) (v : Value) (l : List (Int × Int)) : Prop := ∃ p cap, v = .slice p l.length cap ∧ ∀ j, j < l.length → ∃ g o, p = some ⟨g, o, none⟩ ∧ Z g ∧ w.cell? ⟨g, o + j * 2, none⟩ = some (.int .i64 (l.getD j (0, 0)).1) ∧ w.cell? ⟨g, o + j * 2 + 1, none⟩ = some (.int .i64 (l.getD j (0, 0)).2)
theorem Pr.keep {S Z : Nat → Prop} {w w' : World} {v : Value} {l : List (Int × Int)} (h : Pr w Z v l) (k : Kp S w w') (hS : ∀ b, Z b → b < w.heap.size → ¬ S b) : Pr w' Z v l := by
  obtain ⟨p, cap, e, hc⟩ := h
  refine ⟨p, cap, e, fun j hj => ?_⟩
  obtain ⟨g, o, e2, hz, c1, c2⟩ := hc j hj
  have hlt := World.block_lt_of_cell? w _ c1
  exact ⟨g, o, e2, hz, k.cellv c1 (hS g hz hlt), k.cellv c2 (hS g hz hlt)⟩
theorem Pr.mono {Z Z' : Nat → Prop} {w : World} {v : Value} {l : List (Int × Int)} (h : Pr w Z v l) (hz : ∀ b, Z b → Z' b) : Pr w Z' v l := by
  obtain ⟨p, cap, e, hc⟩ := h
  refine ⟨p, cap, e, fun j hj => ?_⟩
  obtain ⟨g, o, e2, hz', c1, c2⟩ := hc j hj
  exact ⟨g, o, e2, hz g hz', c1, c2⟩
theorem Pr.nil (w : World) (Z : Nat → Prop) (p : Option Addr) (cap : Nat) : Pr w Z (.slice p 0 cap) [] := ⟨p, cap, rfl, fun j hj => absurd hj (Nat.not_lt_zero _)⟩
theorem Pr.ofOwn {w : World} {base : Nat} {v : Value} {l : List (Int × Int)} (h : w.ownsRow base 39 2 v l.length (pflat l)) : Pr w (fun b => v.ownBlock = some b) v l := by
  rcases Joins.ownsRow_forms h with ⟨e1, e2⟩ | ⟨g, cap, e⟩
  · have : l = [] := List.eq_nil_of_length_eq_zero e2
    subst this
    rw [e1]
    exact Pr.nil _ _ _ _
  · rw [e] at h ⊢
    refine ⟨_, cap, rfl, fun j hj => ⟨g, 0, rfl, rfl, ?_, ?_⟩⟩
    · have := h.cells (g := g) rfl (j * 2) _ (pflat_get l j hj).1
      rw [Addr.add_mid, Nat.zero_add] at this
      rw [Nat.zero_add]
      exact this
    · have := h.cells (g := g) rfl (j * 2 + 1) _ (pflat_get l j hj).2
      rw [Addr.add_mid, Nat.zero_add] at this
      rw [Nat.zero_add]
      exact this
theorem own_frz1 {w : World} {base g n cap sz : Nat} {e : TypeId} {xs : List Value} (h : w.ownsRow base e sz (.slice (some ⟨g, 0, none⟩) n cap) n xs) (j : Nat) : w.frozen? ⟨g, j, none⟩ = false := by
  obtain ⟨h1, h2⟩ := h
  rcases h2 with ⟨h0, _⟩ | ⟨g2, cap2, cur, hv, hg, hh, hn, hcap, hsz, htake⟩
  · cases h0
  · cases hv
    exact frozen_of_row _ _ _ cur _ hh
theorem srtP_len (l : List (Int × Int)) : (srtP l).length = l.length := (List.mergeSort_perm _ _).length_eq
theorem flat_getE (d : Array (Int × Int)) (t : Nat) (h : t < d.size * 2) : (flatK encP 2 d)[t]! = (encP d[t / 2]!)[t % 2]! := get_flatK encP 2 d t h
/-- slices.SortFunc of a row of one's own -/
theorem sortOwn {w : World} {base : Nat} {v : Value} {d : List (Int × Int)} (h : w.ownsRow base 39 2 v d.length (pflat d)) (hd : d.length ≤ 100000) :
    Calls Try.prog 35 #[v, .func (.func 36) #[] #[]] w fun e w' => e = .returned (.tuple #[]) ∧ Kp (fun b => v.ownBlock = some b) w w' ∧ Pr w' (fun b => v.ownBlock = some b) v (srtP d) := by
  rcases Joins.ownsRow_forms h with ⟨e1, e2⟩ | ⟨g, cap, e⟩
  · have : d = [] := List.eq_nil_of_length_eq_zero e2
    subst this
    rw [e1]
    refine (sort0 none 0 _ w).mono ?_
    rintro e w' ⟨rfl, rfl⟩
    have e0 : srtP [] = [] := List.eq_nil_of_length_eq_zero (srtP_len [])
    exact ⟨rfl, Kp.refl _ _, by rw [e0]; exact Pr.nil _ _ _ _⟩
  · have hp := Pr.ofOwn h
    have hb := (ownBlock_lt h (g := g) (by rw [e]; rfl)).2
    rw [e] at h hp ⊢
    have hH : HoldsK encP 2 w g 0 d.toArray := fun t ht => by
      have ht2 : t < d.length * 2 := by simpa using ht
      refine ⟨?_, own_frz1 h _⟩
      rw [flat_getE _ _ (by simpa using ht)]
      have hj : t / 2 < d.length := by omega
      have e3 : (d.toArray[t / 2]!) = d.getD (t / 2) (0, 0) := by
        rw [List.getElem!_toArray, List.getElem!_eq_getElem?_getD, List.getD_eq_getElem?_getD]
        rfl
      rw [e3, Nat.zero_add]
      rcases (by omega : t % 2 = 0 ∨ t % 2 = 1) with e4 | e4
      · have := h.cells (g := g) rfl (t / 2 * 2) _ (pflat_get d (t / 2) hj).1
        rw [Addr.add_mid, Nat.zero_add, show t / 2 * 2 = t by omega] at this
        rw [e4]
        exact this
      · have := h.cells (g := g) rfl (t / 2 * 2 + 1) _ (pflat_get d (t / 2) hj).2
        rw [Addr.add_mid, Nat.zero_add, show t / 2 * 2 + 1 = t by omega] at this
        rw [e4]
        exact this
    refine (sortP g 0 cap d w hH hb (by omega)).mono ?_
    rintro q w' ⟨rfl, n, os, rfl⟩
    have hfin : HoldsK encP 2 (sortWorldK encP 2 w g 0 n (srtP d).toArray os) g 0 (srtP d).toArray :=
      holdsK_grow _ _ _ os g 0 _ (by simp [putRowK, putRow, mapBlock, Sort.ahead]; exact hb) (holdsK_putRowK _ _ _ g 0 d.toArray _ (holdsK_ahead _ _ _ n g 0 _ hH) (by simp [srtP_len]))
    refine ⟨rfl, (kp_sortW encP 2 w g 0 n _ os).mono (fun b _ e => by rw [e]; rfl), some ⟨g, 0, none⟩, cap, by rw [srtP_len], fun j hj => ⟨g, 0, rfl, rfl, ?_, ?_⟩⟩
    · have := (hfin (j * 2) (by simp; omega)).1
      rw [flat_getE _ _ (by simp; omega)] at this
      have e3 : ((srtP d).toArray[j * 2 / 2]!) = (srtP d).getD j (0, 0) := by
        rw [List.getElem!_toArray, List.getElem!_eq_getElem?_getD, List.getD_eq_getElem?_getD, show j * 2 / 2 = j by omega]
        rfl
      rw [e3, show j * 2 % 2 = 0 by omega] at this
      exact this
    · have := (hfin (j * 2 + 1) (by simp; omega)).1
      rw [flat_getE _ _ (by simp; omega)] at this
      have e3 : ((srtP d).toArray[(j * 2 + 1) / 2]!) = (srtP d).getD j (0, 0) := by
        rw [List.getElem!_toArray, List.getElem!_eq_getElem?_getD, List.getD_eq_getElem?_getD, show (j * 2 + 1) / 2 = j by omega]
        rfl
      rw [e3, show (j * 2 + 1) % 2 = 1 by omega] at this
      exact this
end Go.Proofs.Ytnpaoppfhffoiaa
