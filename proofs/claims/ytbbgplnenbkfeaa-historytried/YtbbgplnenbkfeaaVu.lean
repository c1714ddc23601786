/- Orders of a key's calls, plain: an order gives times that fit. -/
import Derived.Test.YtbbgplnenbkfeaaVf
namespace Go.Proofs.Ytbbgplnenbkfeaa
set_option linter.unusedVariables false
set_option linter.unusedSimpArgs false
open Go.RowKit Go.Deep Go.Maps

/-- what a call does to its key's state (0 empty, 1 bytes, 2 gone), and what it is told -/
def doS (n : Nat) (b : List Nat) (c : Hc) : Nat × List Nat × Int :=
  if c.e.kind = 1 then (if n = 0 then (1, c.e.b.xs, 1) else (n, b, 2))
  else if c.e.kind = 2 then (if n = 1 then (n, b, 1) else (n, b, 3))
  else (if n = 1 then (2, [], 1) else (n, b, 3))
def doOk (n : Nat) (b : List Nat) (c : Hc) : Prop := c.says = 0 ∨ (c.says = (doS n b c).2.2 ∧ (c.e.kind = 2 → n = 1 → c.g.xs = b))
def freeI (l : List Hc) (c : Hc) : Prop := ∀ d ∈ l, d.fr ≠ c.fr → d.says ≠ 0 → c.fr < d.to
/-- the calls that are left can be put in order -/
inductive Ord : List Hc → Nat → List Nat → Prop
  | done {l : List Hc} {n : Nat} {b : List Nat} (h : ∀ c ∈ l, c.says = 0) : Ord l n b
  | step {l : List Hc} {n : Nat} {b : List Nat} (i : Nat) (c : Hc) (hi : l[i]? = some c) (hf : freeI l c) (hd : doOk n b c) (h : Ord (l.eraseIdx i) (doS n b c).1 (doS n b c).2.1) : Ord l n b
/-- calls with times of their own, of known kinds -/
structure Ods (U : Int) (l : List Hc) : Prop where
  u : U ≤ never ∧ ∀ c ∈ l, c.fr + 1 ≤ U
  z : ∀ c ∈ l, c.says = 0 → c.to = never
  n : (l.map (·.fr)).Pairwise (· < ·)
  t : ∀ c ∈ l, c.fr < c.to
  s : ∀ c ∈ l, (c.says = 0 ∨ c.says = 1 ∨ (c.says = 2 ∧ c.e.kind = 1) ∨ (c.says = 3 ∧ c.e.kind ≠ 1)) ∧ (c.e.kind = 1 ∨ c.e.kind = 2 ∨ c.e.kind = 3)
theorem Ods.erase {U : Int} {l : List Hc} (h : Ods U l) (i : Nat) : Ods U (l.eraseIdx i) :=
  ⟨⟨h.u.1, fun c hc => h.u.2 c (List.mem_of_mem_eraseIdx hc)⟩, fun c hc => h.z c (List.mem_of_mem_eraseIdx hc), List.Pairwise.sublist (List.Sublist.map _ (List.eraseIdx_sublist l i)) h.n, fun c hc => h.t c (List.mem_of_mem_eraseIdx hc), fun c hc => h.s c (List.mem_of_mem_eraseIdx hc)⟩
theorem Ods.inj {U : Int} {l : List Hc} (h : Ods U l) {i j : Nat} {a b : Hc} (hi : l[i]? = some a) (hj : l[j]? = some b) (e : a.fr = b.fr) : i = j := by
  have h1 := (List.getElem?_eq_some_iff.1 hi)
  have h2 := (List.getElem?_eq_some_iff.1 hj)
  obtain ⟨l1, e1⟩ := h1
  obtain ⟨l2, e2⟩ := h2
  have hp := List.pairwise_iff_getElem.1 h.n
  rcases Nat.lt_trichotomy i j with q | q | q
  · have := hp i j (by simpa using l1) (by simpa using l2) q
    simp only [List.getElem_map, e1, e2] at this
    omega
  · exact q
  · have := hp j i (by simpa using l2) (by simpa using l1) q
    simp only [List.getElem_map, e1, e2] at this
    omega
theorem Ods.mem {U : Int} {l : List Hc} (h : Ods U l) {i : Nat} {c : Hc} (hi : l[i]? = some c) {d : Hc} (hd : d ∈ l) : d = c ∨ (d ∈ l.eraseIdx i ∧ d.fr ≠ c.fr) := by
  obtain ⟨j, hj⟩ := List.getElem?_of_mem hd
  by_cases e : j = i
  · subst e
    rw [hi] at hj
    cases hj
    exact Or.inl rfl
  · right
    refine ⟨?_, fun q => e (h.inj hj hi q)⟩
    rw [List.mem_eraseIdx_iff_getElem?]
    exact ⟨j, e, hj⟩
theorem Ods.out {U : Int} {l : List Hc} (h : Ods U l) {i : Nat} {c : Hc} (hi : l[i]? = some c) {d : Hc} (hd : d ∈ l.eraseIdx i) : d ∈ l ∧ d.fr ≠ c.fr := by
  rw [List.mem_eraseIdx_iff_getElem?] at hd
  obtain ⟨j, hj, hjd⟩ := hd
  exact ⟨List.mem_of_getElem? hjd, fun q => hj (h.inj hjd hi q)⟩
/-- behind the delete -/
theorem ord2 {U : Int} {l : List Hc} {n : Nat} {b : List Nat} (h : Ord l n b) : n = 2 → Ods U l → ∀ c ∈ l, c.says ≠ 0 → c.says = 2 ∨ c.says = 3 := by
  induction h with
  | done h => intro _ _ c hc h0; exact absurd (h c hc) h0
  | @step l n b i c hi hf hd h ih =>
    intro hn ho d hdm h0
    subst hn
    have hk := ho.s c (List.mem_of_getElem? hi)
    have hs : (doS 2 b c).1 = 2 ∧ ((doS 2 b c).2.2 = 2 ∨ (doS 2 b c).2.2 = 3) := by
      unfold doS
      by_cases k1 : c.e.kind = 1
      · simp [k1]
      · by_cases k2 : c.e.kind = 2
        · simp [k2]
        · simp [k1, k2]
    rcases ho.mem hi hdm with rfl | ⟨q, _⟩
    · rcases hd with q | q
      · exact absurd q h0
      · have := hs.2; omega
    · exact ih hs.1 (ho.erase i) d q h0
/-- with bytes: a delete, or none, and its time -/
theorem ord1 {U : Int} {l : List Hc} {n : Nat} {b : List Nat} (h : Ord l n b) : n = 1 → Ods U l → ∀ M : Int, M ≤ U → (∀ c ∈ l, c.says ≠ 0 → M ≤ c.to) →
    (∀ c ∈ l, c.says ≠ 0 → c.says = 2 ∨ (readsP c = true ∧ c.g.xs = b)) ∨ ∃ d ∈ l, ∃ E : Int, M ≤ E ∧ E ≤ U ∧ d.e.kind = 3 ∧ (d.says = 0 ∨ d.says = 1) ∧ d.fr < E ∧ E ≤ d.to ∧ ∀ c ∈ l, c.fr ≠ d.fr → c.says ≠ 0 → c.says = 2 ∨ (c.says = 3 ∧ E ≤ c.to) ∨ (readsP c = true ∧ c.fr < E ∧ c.g.xs = b) := by
  induction h with
  | done h => intro _ _ M _ _; exact Or.inl (fun c hc h0 => absurd (h c hc) h0)
  | @step l n b i c hi hf hd h ih =>
    intro hn ho M hMU hM
    subst hn
    have hcm := List.mem_of_getElem? hi
    have hk := ho.s c hcm
    have ht := ho.t c hcm
    have hu := ho.u.2 c hcm
    have hU := ho.u.1
    have hcM : M ≤ c.to := by
      by_cases h0 : c.says = 0
      · rw [ho.z c hcm h0]; omega
      · exact hM c hcm h0
    have hM' : ∀ d ∈ l.eraseIdx i, d.says ≠ 0 → max M (c.fr + 1) ≤ d.to := fun d hdm h0 => by
      obtain ⟨h1, h2⟩ := ho.out hi hdm
      have := hM d h1 h0
      have := hf d h1 h2 h0
      omega
    by_cases k3 : c.e.kind = 3
    · -- the delete
      have hs : doS 1 b c = (2, [], 1) := by unfold doS; simp [k3]
      have h2 := ord2 h (by rw [hs]) (ho.erase i)
      right
      refine ⟨c, hcm, max M (c.fr + 1), by omega, by omega, k3, ?_, by omega, by omega, fun d hdm hne h0 => ?_⟩
      · rcases hd with q | q
        · exact Or.inl q
        · rw [hs] at q; exact Or.inr q.1
      · rcases ho.mem hi hdm with rfl | ⟨q, _⟩
        · exact absurd rfl hne
        · have := hM' d q h0
          rcases h2 d q h0 with r | r
          · exact Or.inl r
          · exact Or.inr (Or.inl ⟨r, this⟩)
    · -- a put that is told, or a get
      have hs : (doS 1 b c).1 = 1 ∧ (doS 1 b c).2.1 = b := by
        unfold doS
        rcases hk.2 with q | q | q
        · simp [q]
        · simp [q]
        · exact absurd q k3
      have hc : c.says ≠ 0 → c.says = 2 ∨ (readsP c = true ∧ c.g.xs = b) := fun h0 => by
        rcases hd with q | q
        · exact absurd q h0
        · rcases hk.2 with r | r | r
          · left
            have : (doS 1 b c).2.2 = 2 := by unfold doS; simp [r]
            rw [this] at q
            exact q.1
          · right
            have : (doS 1 b c).2.2 = 1 := by unfold doS; simp [r]
            rw [this] at q
            refine ⟨?_, q.2 r rfl⟩
            unfold readsP
            rw [r, q.1]; rfl
          · exact absurd r k3
      rw [hs.2] at ih
      rcases ih hs.1 (ho.erase i) (max M (c.fr + 1)) (by omega) hM' with h1 | ⟨d, hdm, E, e1, e0, e2, e3, e4, e5, e6⟩
      · left
        intro d hdm h0
        rcases ho.mem hi hdm with rfl | ⟨q, _⟩
        · exact hc h0
        · exact h1 d q h0
      · right
        obtain ⟨hd1, hd2⟩ := ho.out hi hdm
        refine ⟨d, hd1, E, by omega, e0, e2, e3, e4, e5, fun x hx hne h0 => ?_⟩
        rcases ho.mem hi hx with rfl | ⟨q, _⟩
        · rcases hc h0 with r | r
          · exact Or.inl r
          · exact Or.inr (Or.inr ⟨r.1, by omega, r.2⟩)
        · exact e6 x q hne h0
/-- what fits an empty key's calls: a put, or none; a delete, or none -/
def Fz (U : Int) (l : List Hc) (M : Int) : Prop :=
  (∀ c ∈ l, c.says ≠ 0 → c.says = 3) ∨ ∃ p ∈ l, ∃ W : Int, M ≤ W ∧ W ≤ U ∧ p.e.kind = 1 ∧ (p.says = 0 ∨ p.says = 1) ∧ p.fr < W ∧ W ≤ p.to ∧
    ((∀ c ∈ l, c.fr ≠ p.fr → c.says ≠ 0 → (c.says = 2 ∧ W ≤ c.to) ∨ (c.says = 3 ∧ c.fr < W) ∨ (readsP c = true ∧ W ≤ c.to ∧ c.g.xs = p.e.b.xs)) ∨
     ∃ d ∈ l, ∃ E : Int, d.fr ≠ p.fr ∧ W ≤ E ∧ E ≤ U ∧ d.e.kind = 3 ∧ (d.says = 0 ∨ d.says = 1) ∧ d.fr < E ∧ E ≤ d.to ∧ ∀ c ∈ l, c.fr ≠ p.fr → c.fr ≠ d.fr → c.says ≠ 0 → (c.says = 2 ∧ W ≤ c.to) ∨ (c.says = 3 ∧ (c.fr < W ∨ E ≤ c.to)) ∨ (readsP c = true ∧ c.fr < E ∧ W ≤ c.to ∧ c.g.xs = p.e.b.xs))
theorem ordZ {U : Int} {l : List Hc} {n : Nat} {b : List Nat} (h : Ord l n b) : n = 0 → Ods U l → ∀ M : Int, M ≤ U → (∀ c ∈ l, c.says ≠ 0 → M ≤ c.to) → Fz U l M := by
  induction h with
  | done h => intro _ _ M _ _; exact Or.inl (fun c hc h0 => absurd (h c hc) h0)
  | @step l n b i c hi hf hd h ih =>
    intro hn ho M hMU hM
    subst hn
    have hcm := List.mem_of_getElem? hi
    have hk := ho.s c hcm
    have ht := ho.t c hcm
    have hu := ho.u.2 c hcm
    have hU := ho.u.1
    have hcM : M ≤ c.to := by
      by_cases h0 : c.says = 0
      · rw [ho.z c hcm h0]; omega
      · exact hM c hcm h0
    have hM' : ∀ d ∈ l.eraseIdx i, d.says ≠ 0 → max M (c.fr + 1) ≤ d.to := fun d hdm h0 => by
      obtain ⟨h1, h2⟩ := ho.out hi hdm
      have := hM d h1 h0
      have := hf d h1 h2 h0
      omega
    by_cases k1 : c.e.kind = 1
    · -- the put
      have hs : doS 0 b c = (1, c.e.b.xs, 1) := by unfold doS; simp [k1]
      rw [hs] at h
      have hcs : c.says = 0 ∨ c.says = 1 := by
        rcases hd with q | q
        · exact Or.inl q
        · rw [hs] at q; exact Or.inr q.1
      right
      refine ⟨c, hcm, max M (c.fr + 1), by omega, by omega, k1, hcs, by omega, by omega, ?_⟩
      rcases ord1 h rfl (ho.erase i) (max M (c.fr + 1)) (by omega) hM' with h1 | ⟨d, hdm, E, e1, e0, e2, e3, e4, e5, e6⟩
      · left
        intro x hx hne h0
        rcases ho.mem hi hx with rfl | ⟨q, _⟩
        · exact absurd rfl hne
        · have := hM' x q h0
          rcases h1 x q h0 with r | r
          · exact Or.inl ⟨r, this⟩
          · exact Or.inr (Or.inr ⟨r.1, this, r.2⟩)
      · right
        obtain ⟨hd1, hd2⟩ := ho.out hi hdm
        refine ⟨d, hd1, E, hd2, e1, e0, e2, e3, e4, e5, fun x hx hne hne2 h0 => ?_⟩
        rcases ho.mem hi hx with rfl | ⟨q, _⟩
        · exact absurd rfl hne
        · have := hM' x q h0
          rcases e6 x q hne2 h0 with r | r | r
          · exact Or.inl ⟨r, this⟩
          · exact Or.inr (Or.inl ⟨r.1, Or.inr r.2⟩)
          · exact Or.inr (Or.inr ⟨r.1, r.2.1, this, r.2.2⟩)
    · -- a get, or a delete, that misses
      have hs : (doS 0 b c).1 = 0 ∧ (doS 0 b c).2.2 = 3 := by
        unfold doS
        by_cases k2 : c.e.kind = 2
        · simp [k2]
        · simp [k1, k2]
      have hc : c.says ≠ 0 → c.says = 3 := fun h0 => by
        rcases hd with q | q
        · exact absurd q h0
        · rw [hs.2] at q; exact q.1
      rcases ih hs.1 (ho.erase i) (max M (c.fr + 1)) (by omega) hM' with h1 | ⟨p, hpm, W, w1, w0, w2, w3, w4, w5, w6⟩
      · left
        intro x hx h0
        rcases ho.mem hi hx with rfl | ⟨q, _⟩
        · exact hc h0
        · exact h1 x q h0
      · right
        obtain ⟨hp1, hp2⟩ := ho.out hi hpm
        refine ⟨p, hp1, W, by omega, w0, w2, w3, w4, w5, ?_⟩
        rcases w6 with h1 | ⟨d, hdm, E, e1, e2, e0, e3, e4, e5, e6, e7⟩
        · left
          intro x hx hne h0
          rcases ho.mem hi hx with rfl | ⟨q, _⟩
          · exact Or.inr (Or.inl ⟨hc h0, by omega⟩)
          · exact h1 x q hne h0
        · right
          obtain ⟨hd1, hd2⟩ := ho.out hi hdm
          refine ⟨d, hd1, E, e1, e2, e0, e3, e4, e5, e6, fun x hx hne hne2 h0 => ?_⟩
          rcases ho.mem hi hx with rfl | ⟨q, _⟩
          · exact Or.inr (Or.inl ⟨hc h0, Or.inl (by omega)⟩)
          · exact e7 x q hne hne2 h0
/-- an order gives times that fit -/
theorem ord_fit {g : List Hc} {L : Int} (ho : Ods L g) (hL : 0 ≤ L ∧ L ≤ 1000) (h : Ord g 0 []) (h0 : ∀ c ∈ g, 0 ≤ c.to) : ∃ pt er W E B, Fit g L pt er W E B := by
  have hgt : ∀ c ∈ g, ∃ i, i < g.length ∧ g.getD i hc0 = c := fun c hc => by
    obtain ⟨i, hi, e⟩ := List.getElem_of_mem hc
    exact ⟨i, hi, by rw [List.getD_eq_getElem?_getD, List.getElem?_eq_getElem hi]; exact e⟩
  have hget : ∀ i, i < g.length → g[i]? = some (g.getD i hc0) := fun i hi => by rw [List.getD_eq_getElem?_getD, List.getElem?_eq_getElem hi]; rfl
  rcases ordZ h rfl ho 0 hL.1 (fun c hc _ => h0 c hc) with h1 | ⟨p, hp, W, w1, w0, w2, w3, w4, w5, w6⟩
  · refine ⟨g.length, g.length, L + 1, L + 1, [], Int.le_refl _, by unfold never; omega, fun h => absurd h (Nat.lt_irrefl _), fun _ => by omega, fun h => absurd h (Nat.lt_irrefl _), fun _ => by omega, fun i hi _ _ => ?_⟩
    have hu := ho.u.2 _ (getD_mem hi)
    by_cases q : (g.getD i hc0).says = 0
    · exact Or.inl q
    · exact Or.inr (Or.inr (Or.inl ⟨h1 _ (getD_mem hi) q, Or.inl (by omega)⟩))
  · obtain ⟨pt, hpt, rfl⟩ := hgt p hp
    rcases w6 with h1 | ⟨d, hd, E, e1, e2, e0, e3, e4, e5, e6, e7⟩
    · refine ⟨pt, g.length, W, L + 1, _, by omega, by unfold never; omega, fun _ => ⟨w2, w3, w4, w5, rfl⟩, fun h => absurd hpt (by omega), fun h => absurd h (Nat.lt_irrefl _), fun _ => by omega, fun i hi n1 _ => ?_⟩
      have hu := ho.u.2 _ (getD_mem hi)
      by_cases q : (g.getD i hc0).says = 0
      · exact Or.inl q
      · rcases h1 _ (getD_mem hi) (fun e => n1 (ho.inj (hget i hi) (hget pt hpt) e)) q with r | r | r
        · exact Or.inr (Or.inl r)
        · exact Or.inr (Or.inr (Or.inl ⟨r.1, Or.inl r.2⟩))
        · exact Or.inr (Or.inr (Or.inr ⟨r.1, by omega, r.2.1, r.2.2⟩))
    · obtain ⟨er, her, rfl⟩ := hgt d hd
      refine ⟨pt, er, W, E, _, e2, by unfold never; omega, fun _ => ⟨w2, w3, w4, w5, rfl⟩, fun h => absurd hpt (by omega), fun _ => ⟨e3, e4, e5, e6⟩, fun h => absurd her (by omega), fun i hi n1 n2 => ?_⟩
      by_cases q : (g.getD i hc0).says = 0
      · exact Or.inl q
      · rcases e7 _ (getD_mem hi) (fun e => n1 (ho.inj (hget i hi) (hget pt hpt) e)) (fun e => n2 (ho.inj (hget i hi) (hget er her) e)) q with r | r | r
        · exact Or.inr (Or.inl r)
        · exact Or.inr (Or.inr (Or.inl r))
        · exact Or.inr (Or.inr (Or.inr ⟨r.1, r.2.1, r.2.2.1, r.2.2.2⟩))
end Go.Proofs.Ytbbgplnenbkfeaa
