/- Texts, as lists of lists of bytes: how they lie; how they come in. -/
import Derived.Test.YtippipeebkkghaaGreatDoorFt
import Derived.Deep.Slices
namespace Go.Proofs.YtippipeebkkghaaGreatDoor
open Go.ChangeShapes Go.WideShapes Go.ChangeAt Go.RowKit Go.Deep

/-- The value v reads as the texts ls. -/
structure Tb (w : World) (v : Value) (ls : List (List Nat)) : Prop where
  form : ∃ (g : Option Addr) (gb go cap : Nat) (A : Nat → Option Addr) (C : Nat → Nat), v = .slice g ls.length cap ∧ ls.length ≤ cap ∧ (0 < ls.length → g = some ⟨gb, go, none⟩) ∧
    ∀ r, r < ls.length → w.cell? ⟨gb, go + r, none⟩ = some (.slice (A r) (ls.getD r []).length (C r)) ∧ Rb w (A r) (ls.getD r []).length (ls.getD r []) ∧ (ls.getD r []).length ≤ C r ∧ (ls.getD r []).length ≤ 140737488355328
  many : ls.length * 24 ≤ 140737488355328

theorem weights_in {H : Type} {P : Program} {e : TypeId} {d : DataW H} : ∀ {l : List (DataW H)}, d ∈ l → ∀ n, n ∈ d.weights P e → n ∈ DataW.weightsAll P e l
  | [], h, _, _ => by cases h
  | x :: r, h, n, hn => by
    simp only [DataW.weightsAll, List.mem_append]
    rcases List.mem_cons.1 h with e | h
    · rw [← e]; exact Or.inl hn
    · exact Or.inr (weights_in h n hn)
/-- what the rows' sizes say of a parameter that is texts -/
theorem sized_texts {H : Type} {ts : List TypeId} {ds : List (DataW H)} {j : Nat} {elems spare : List (DataW H)} (h : (DataW.weightsEach Tryz.prog ts ds).all (· ≤ reachBytes) = true) (ht : ts[j]? = some 90) (hd : ds[j]? = some (.slice elems spare)) :
    (elems.length + spare.length) * 24 ≤ 140737488355328 ∧ ∀ e' s', DataW.slice e' s' ∈ elems → e'.length + s'.length ≤ 140737488355328 := by
  have hr : reachBytes ≤ 140737488355328 := by have := reachBytes_lt; omega
  have b1 : Tryz.prog.bytesOf 75 = 24 := by kernel_rfl
  have b2 : Tryz.prog.bytesOf 5 = 1 := by kernel_rfl
  refine ⟨?_, fun e' s' hx => ?_⟩
  · have := sized_slice h ht hd Tryz.underlying90
    rw [b1] at this; omega
  · have h2 := List.all_eq_true.1 h _ (DataW.weights_mem_each ht hd ((e'.length + s'.length) * Tryz.prog.bytesOf 5) (by
      simp only [DataW.weights, Tryz.underlying90, List.mem_cons, List.mem_append]
      exact Or.inr (Or.inl (weights_in hx _ (by simp [DataW.weights, Tryz.underlying75])))))
    have h3 := of_decide_eq_true h2
    rw [b2] at h3; omega

theorem texts_of_trod {H : Type} {enc : TypeId × Value → H} {W : World} {a : Option Addr} {len cap : Nat} {d : DataW H} {p : List MemPlace}
    (h : DataW.Trod enc Tryz.prog W 0 (fun _ => true) true 90 (.slice a len cap) d p)
    (hw : ∀ elems spare, d = .slice elems spare → (elems.length + spare.length) * 24 ≤ 140737488355328 ∧ ∀ e' s', DataW.slice e' s' ∈ elems → e'.length + s'.length ≤ 140737488355328) : ∃ ls, Tb W (.slice a len cap) ls := by
  obtain ⟨fuel, hf⟩ := h
  rcases open_slice1 Tryz.underlying90 (by kernel_rfl) hf with ⟨hcs, _⟩ | ⟨x, l, c, m, n, V, D, Pl, hcs, _, hl, hm, hmm, hx, hel⟩
  · simp [Value.cells] at hcs
    obtain ⟨rfl, rfl, rfl⟩ := hcs
    exact ⟨[], ⟨none, 0, 0, 0, fun _ => none, fun _ => 0, rfl, Nat.le_refl _, fun h => absurd h (Nat.lt_irrefl _), fun r h => absurd h (Nat.not_lt_zero _)⟩, by simp⟩
  · simp [Value.cells] at hcs
    obtain ⟨rfl, rfl, rfl⟩ := hcs
    have hmc : m = cap := by simpa using hmm
    obtain ⟨hd, _⟩ := Prod.mk.inj hx
    obtain ⟨w1, w2⟩ := hw _ _ hd
    simp only [List.length_map, List.length_range] at w1
    obtain ⟨F, hF⟩ := choose_lt (α := Option Addr × Nat × List Nat) (n := len) (p := fun i t => V i = .slice t.1 t.2.2.length t.2.1 ∧ Rb W t.1 t.2.2.length t.2.2 ∧ t.2.2.length ≤ t.2.1 ∧ t.2.2.length ≤ 140737488355328) (fun i hi => by
      obtain ⟨_, ht⟩ := hel i (by omega)
      rcases open_ints Tryz.underlying75 Tryz.underlying5 (by kernel_rfl) ht with ⟨hv, _⟩ | ⟨y, l', c', zs, hv, hxx, hl', _, hz, hDx, hcell, hwz⟩
      · have hv' : V i = .slice none 0 0 := by simpa using hv
        exact ⟨(none, 0, []), hv', Rb.nil _ _, Nat.le_refl _, by simp⟩
      · have hv' : V i = .slice (some y) l' c' := by simpa using hv
        have htr : DataW.Trod enc Tryz.prog W 0 (fun _ => true) true 75 (.slice (some y) l' c') (D i) (Pl i) := ⟨n, by rw [hv] at ht; simpa [Value.cells] using ht⟩
        obtain ⟨xs, hr, hlc, hsz⟩ := rb_of_trod htr (fun elems spare hd' => w2 elems spare (by
          refine List.mem_map.2 ⟨i, List.mem_range.2 hi, ?_⟩
          exact hd'))
        have hlen := hr.len
        subst hlen
        exact ⟨(some y, c', xs), hv', hr, hlc, hsz.out⟩)
    obtain ⟨b, off, spot⟩ := x
    have hget : ∀ r, r < len → ((List.range len).map fun i => (F i).2.2).getD r [] = (F r).2.2 := fun r hr => by
      rw [List.getD_eq_getElem?_getD, List.getElem?_map, List.getElem?_range hr]; rfl
    by_cases h0 : len = 0
    · subst h0
      exact ⟨[], ⟨some ⟨b, off, spot⟩, 0, 0, cap, fun _ => none, fun _ => 0, rfl, Nat.zero_le _, fun h => absurd h (Nat.lt_irrefl _), fun r h => absurd h (Nat.not_lt_zero _)⟩, by simp⟩
    · have hc0 := (hel 0 (by omega)).1
      have hspot : spot = none := by simpa [Addr.add] using World.cell?_spot hc0
      subst hspot
      refine ⟨(List.range len).map fun i => (F i).2.2, ⟨some ⟨b, off, none⟩, b, off, cap, fun i => (F i).1, fun i => (F i).2.1, by simp, by simpa using hl, fun _ => rfl, fun r hr => ?_⟩, by rw [List.length_map, List.length_range]; omega⟩
      rw [List.length_map, List.length_range] at hr
      rw [hget r hr]
      obtain ⟨e1, e2, e3, e4⟩ := hF r hr
      refine ⟨?_, e2, e3, e4⟩
      have := (hel r (by omega)).1
      rw [show (⟨b, off, none⟩ : Addr).add r = ⟨b, off + r, none⟩ from by by_cases e : r = 0 <;> simp [Addr.add, e]] at this
      rw [this, e1]
end Go.Proofs.YtippipeebkkghaaGreatDoor
