/- Stretches of ticks; slices of numbers. -/
import Derived.Test.YtdhlmplpdmcjoaaDx
import Derived.Test.YtdhlmplpdmcjoaaDw
namespace Go.Proofs.Ytdhlmplpdmcjoaa
open Go.RowKit Go.Deep Go.Maps

theorem adm_mem {N : Nat} : ∀ {h : List Nat}, adm N h → ∀ x ∈ h, x < N
  | [], _, x, hx => by cases hx
  | y :: h, H, x, hx => by
    rcases List.mem_cons.1 hx with rfl | hx
    · exact H.1
    · exact adm_mem H.2.2 x hx
/-- in any stretch no clock makes more than twice as many ticks as another one, and two more -/
theorem seg_bounds {N : Nat} {h : List Nat} (H : adm N h) (f j : Nat) {a b : Nat} (ha : a < N) (hb : b < N) : ((h.reverse.drop f).take j).count a ≤ 2 * ((h.reverse.drop f).take j).count b + 2 := by
  have e1 : h.reverse = h.reverse.take f ++ ((h.reverse.drop f).take j ++ (h.reverse.drop f).drop j) := by rw [List.take_append_drop, List.take_append_drop]
  have e2 : h = ((h.reverse.drop f).drop j).reverse ++ (((h.reverse.drop f).take j).reverse ++ (h.reverse.take f).reverse) := by
    have := congrArg List.reverse e1
    rw [List.reverse_reverse, List.reverse_append, List.reverse_append, List.append_assoc] at this
    exact this
  rw [e2] at H
  have := bounds (adm_drop _ H) ha hb
  rw [List.count_reverse, List.count_reverse] at this
  exact this
theorem slice_hi (p : Option Addr) (n c r : Nat) (hr : r ≤ c) (w : World) :
    (Instr.slice 32 (.slice p n c) none (some (.int .i64 (r : Int))) none).run Try.prog w = .ok (.slice p r c) w := by
  obtain ⟨i, hi, hz⟩ := Option.map_eq_some_iff.1 infoInt
  simp only [Prod.mk.injEq] at hz
  obtain ⟨hz, hs, hb⟩ := hz
  have h2 : (0 : Int) ≤ r ∧ (r : Int) ≤ (c : Int) := by omega
  simp [Instr.slice, Instr.sliceBounds, Instr.sliceBound, asIntOf, run_underlying Try.underlying32, sizeOf, typeInfo, hi, hr]
  cases p <;> simp [Addr.add]
theorem slice_lo (g n c l : Nat) (hl : l < n) (hc : n ≤ c) (w : World) :
    (Instr.slice 32 (.slice (some ⟨g, 0, none⟩) n c) (some (.int .i64 (l : Int))) none none).run Try.prog w = .ok (.slice (some ⟨g, l, none⟩) (n - l) (c - l)) w := by
  obtain ⟨i, hi, hz⟩ := Option.map_eq_some_iff.1 infoInt
  simp only [Prod.mk.injEq] at hz
  obtain ⟨hz, hs, hb⟩ := hz
  have hl' : l ≤ n := by omega
  have hne : ¬ c = l := by omega
  simp [Instr.slice, Instr.sliceBounds, Instr.sliceBound, asIntOf, run_underlying Try.underlying32, sizeOf, typeInfo, hi, hs, hl', hne]
  by_cases e : l = 0 <;> simp [Addr.add, e]
theorem Oz.form {w : World} {base : Nat} {v : Value} {xs : List Nat} (h : Oz w base v xs) : ∃ q cap, v = .slice q xs.length cap ∧ (0 < xs.length → ∃ g, q = some ⟨g, 0, none⟩ ∧ base ≤ g ∧ xs.length ≤ cap ∧ ∀ j, j < xs.length → w.cell? ⟨g, j, none⟩ = some (encN (xs.getD j 0))) := by
  rcases Joins.ownsRow_forms h with ⟨e, e2⟩ | ⟨g, cap, e⟩
  · exact ⟨none, 0, by rw [e, e2], fun h0 => by omega⟩
  · refine ⟨_, cap, e, fun h0 => ⟨g, rfl, (ownBlock_lt h (by rw [e]; rfl)).1, ?_, fun j hj => ?_⟩⟩
    · obtain ⟨_, h2⟩ := h
      rcases h2 with ⟨e1, _⟩ | ⟨g', cap', cur, e1, _, _, _, hr⟩
      · rw [e] at e1; cases e1
      · rw [e] at e1; cases e1; omega
    · have := h.cells (g := g) (by rw [e]; rfl) j (encN (xs.getD j 0)) (by rw [List.getElem?_map, List.getElem?_eq_getElem hj, List.getD_eq_getElem?_getD, List.getElem?_eq_getElem hj]; rfl)
      by_cases e : j = 0 <;> simpa [Addr.add, e] using this
/-- counts of a stretch that grows by one -/
theorem count_next {xs : List Nat} {f j x : Nat} (hj : f + j < xs.length) (y : Nat) (hx : xs.getD (f + j) 0 = x) : ((xs.drop f).take (j + 1)).count y = ((xs.drop f).take j).count y + (if y = x then 1 else 0) := by
  have h1 : (xs.drop f)[j]? = some x := by
    rw [List.getElem?_drop, List.getElem?_eq_getElem hj]
    rw [List.getD_eq_getElem?_getD, List.getElem?_eq_getElem hj] at hx
    exact congrArg some hx
  rw [List.take_add_one, h1, Option.toList_some, List.count_append]
  by_cases e : y = x
  · subst e; simp
  · rw [if_neg e]
    have : (x == y) = false := by simp; omega
    simp [List.count_cons, this]
theorem count_le60 {xs : List Nat} (h : xs.length ≤ 60) (f j y : Nat) : ((xs.drop f).take j).count y ≤ 60 := by
  have := List.count_le_length (a := y) (l := (xs.drop f).take j)
  rw [List.length_take, List.length_drop] at this
  omega
end Go.Proofs.Ytdhlmplpdmcjoaa
