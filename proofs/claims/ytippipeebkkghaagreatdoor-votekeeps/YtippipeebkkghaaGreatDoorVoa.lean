/- An acceptor's notes, plain. -/
import Derived.Test.YtippipeebkkghaaGreatDoorJrx
import Derived.Test.YtippipeebkkghaaGreatDoorVop
import Derived.Test.YtippipeebkkghaaGreatDoorQy
import Derived.Test.YtippipeebkkghaaGreatDoorJrc
namespace Go.Proofs.YtippipeebkkghaaGreatDoor
set_option linter.unusedVariables false
set_option linter.unusedSimpArgs false
open Go.RowKit Go.Deep Go.Maps

/-- the note of what is promised -/
abbrev kP : K3 := ⟨4, 0, 0⟩
/-- what is noted -/
def ntV (hi : Nat) (V : Nat → Nat) : K3 → Option Rc := fun x =>
  if x = kP then (if hi = 0 then none else some ⟨4, 0, 0, 0, [1, hi]⟩)
  else if x.k = 4 ∧ x.i = 0 ∧ 1 ≤ x.n ∧ x.n ≤ 5 ∧ V x.n.toNat ≠ 0 then some ⟨4, x.n.toNat, 0, 0, votB (V x.n.toNat)⟩ else none
/-- a record of an acceptor -/
def Gr (r : Rc) : Prop := (∃ b, 1 ≤ b ∧ b ≤ 20 ∧ r = ⟨4, 0, 0, 0, [1, b]⟩) ∨ ∃ s b, (1 ≤ s ∧ s ≤ 5) ∧ (1 ≤ b ∧ b ≤ 20) ∧ r = ⟨4, s, 0, 0, votB b⟩
/-- an acceptor's history -/
structure Hs (h : List Rc) (hi : Nat) (V : Nat → Nat) : Prop where
  st : (stS h).1 = ntV hi V
  gr : ∀ r ∈ h, Gr r
  h20 : hi ≤ 20
  v20 : ∀ s, V s ≤ 20
theorem Gr.g {r : Rc} (h : Gr r) : GoodR r ∧ 1 ≤ r.b.length ∧ r.b.length ≤ 103 ∧ r.k = 4 ∧ r.i = 0 ∧ r.e = 0 := by
  rcases h with ⟨b, h1, h2, rfl⟩ | ⟨s, b, hs, ⟨h1, h2⟩, rfl⟩
  · refine ⟨⟨⟨show 1 ≤ 4 by omega, show 4 ≤ 4 by omega⟩, show 0 ≤ 1152921504606846976 by omega, show 0 ≤ 1152921504606846976 by omega, show 0 ≤ 1152921504606846976 by omega, fun z hz => ?_, show 2 ≤ 1980 by omega, fun e => by rcases e with e | e <;> cases e⟩, show 1 ≤ 2 by omega, show 2 ≤ 103 by omega, rfl, rfl, rfl⟩
    have hz : z ∈ [1, b] := hz
    simp only [List.mem_cons, List.not_mem_nil, or_false] at hz
    omega
  · rw [votB_eq h1 h2]
    refine ⟨⟨⟨show 1 ≤ 4 by omega, show 4 ≤ 4 by omega⟩, show s ≤ 1152921504606846976 by omega, show 0 ≤ 1152921504606846976 by omega, show 0 ≤ 1152921504606846976 by omega, fun z hz => ?_, show 15 ≤ 1980 by omega, fun e => by rcases e with e | e <;> cases e⟩, show 1 ≤ 15 by omega, show 15 ≤ 103 by omega, rfl, rfl, rfl⟩
    have hz : z ∈ [1, b, 1, b, 0, 0, 0, 0, 0, 0, 0, 0, 0, 0, 0] := hz
    simp only [List.mem_cons, List.not_mem_nil, or_false] at hz
    omega
theorem Gr.sec {r : Rc} (h : Gr r) : secS r ≤ 2 := by
  have h1 := (wrS_len h.g.1).2.2
  have h2 : r.b.length ≤ 15 := by
    rcases h with ⟨b, g1, g2, rfl⟩ | ⟨s, b, hs, ⟨g1, g2⟩, rfl⟩
    · show 2 ≤ 15; omega
    · show (votB b).length ≤ 15
      rw [votB_eq g1 g2]
      exact Nat.le_refl _
  show needW (wrS r) ≤ 2
  unfold needW
  omega
theorem Gr.cn {r : Rc} (h : Gr r) : Cn r := ⟨h.g.1, fun _ => h.g.2.2.2.2.1, fun _ => h.g.2.2.2.2.2, fun e => by have := h.g.2.2.2.1; omega⟩
section
variable {h h' : List Rc} {hi : Nat} {V : Nat → Nat}
theorem Hs.nil : Hs [] 0 (fun _ => 0) := ⟨by
  rw [stS_nil]
  funext x
  show none = ntV 0 _ x
  unfold ntV
  by_cases e : x = kP
  · rw [if_pos e, if_pos rfl]
  · rw [if_neg e, if_neg (fun e => e.2.2.2.2 rfl)], fun r hr => absurd hr List.not_mem_nil, by omega, fun _ => by omega⟩
theorem Hs.promise (x : Hs h hi V) {b : Nat} (h1 : 1 ≤ b) (h2 : b ≤ 20) (he : stS h' = stS (h ++ [⟨4, 0, 0, 0, [1, b]⟩])) (hg : ∀ q ∈ h', q ∈ h ∨ q = ⟨4, 0, 0, 0, [1, b]⟩) : Hs h' b V := by
  refine ⟨?_, fun r hr => (hg r hr).elim (x.gr r) (fun e => Or.inl ⟨b, h1, h2, e⟩), h2, x.v20⟩
  rw [he]
  funext y
  rw [stS_at, x.st]
  show (if y = kP then some _ else ntV hi V y) = ntV b V y
  unfold ntV
  by_cases e : y = kP
  · rw [if_pos e, if_pos e, if_neg (by omega)]
  · rw [if_neg e, if_neg e, if_neg e]
theorem Hs.vote (x : Hs h hi V) {s b : Nat} (hs : 1 ≤ s ∧ s ≤ 5) (h1 : 1 ≤ b) (h2 : b ≤ 20) (he : stS h' = stS (h ++ [⟨4, s, 0, 0, votB b⟩])) (hg : ∀ q ∈ h', q ∈ h ∨ q = ⟨4, s, 0, 0, votB b⟩) : Hs h' hi (fun t => if t = s then b else V t) := by
  refine ⟨?_, fun r hr => (hg r hr).elim (x.gr r) (fun e => Or.inr ⟨s, b, hs, ⟨h1, h2⟩, e⟩), x.h20, fun t => by
    show (if t = s then b else V t) ≤ 20
    by_cases e : t = s
    · rw [if_pos e]; omega
    · rw [if_neg e]; exact x.v20 t⟩
  rw [he]
  funext y
  rw [stS_at, x.st]
  show (if y = ⟨4, (s : Int), 0⟩ then some (⟨4, s, 0, 0, votB b⟩ : Rc) else ntV hi V y) = ntV hi _ y
  unfold ntV
  by_cases e : y = ⟨4, (s : Int), 0⟩
  · rw [if_pos e, e, if_neg (fun e => by injection e with _ e _; omega)]
    have e9 : ((⟨4, (s : Int), 0⟩ : K3)).n.toNat = s := by show ((s : Int)).toNat = s; omega
    rw [e9]
    have e8 : (fun t => if t = s then b else V t) s = b := if_pos rfl
    rw [e8, if_pos ⟨rfl, rfl, show (1 : Int) ≤ (s : Int) by omega, show (s : Int) ≤ 5 by omega, by omega⟩]
  · rw [if_neg e]
    by_cases e2 : y = kP
    · rw [if_pos e2, if_pos e2]
    · rw [if_neg e2, if_neg e2]
      by_cases e3 : y.n.toNat = s
      · have h9 : ¬ (y.k = 4 ∧ y.i = 0 ∧ 1 ≤ y.n ∧ y.n ≤ 5) := fun ⟨a1, a2, a3, a4⟩ => e (by
          obtain ⟨yk, yn, yi⟩ := y
          dsimp only at a1 a2 a3 a4 e3
          have : yn = (s : Int) := by omega
          rw [a1, a2, this])
        rw [if_neg (fun ⟨a1, a2, a3, a4, _⟩ => h9 ⟨a1, a2, a3, a4⟩), if_neg (fun ⟨a1, a2, a3, a4, _⟩ => h9 ⟨a1, a2, a3, a4⟩)]
      · have e8 : (fun t => if t = s then b else V t) y.n.toNat = V y.n.toNat := if_neg e3
        rw [e8]
theorem Hs.at0 (x : Hs h hi V) : ntd h 0 = if hi = 0 then [] else [1, hi] := by
  unfold ntd
  rw [x.st]
  unfold ntV
  rw [if_pos (show (⟨4, ((0 : Nat) : Int), 0⟩ : K3) = kP from rfl)]
  by_cases e : hi = 0
  · rw [if_pos e, if_pos e]
  · rw [if_neg e, if_neg e]
theorem Hs.atS (x : Hs h hi V) {s : Nat} (hs : 1 ≤ s ∧ s ≤ 5) (hv : V s ≠ 0) : ntd h s = votB (V s) := by
  unfold ntd
  rw [x.st]
  unfold ntV
  rw [if_neg (fun e => by injection e with _ e _; omega)]
  have e9 : ((⟨4, (s : Int), 0⟩ : K3)).n.toNat = s := by show ((s : Int)).toNat = s; omega
  rw [e9, if_pos ⟨rfl, rfl, show (1 : Int) ≤ (s : Int) by omega, show (s : Int) ≤ 5 by omega, hv⟩]
theorem Hs.same0 (x : Hs h hi V) {b : Nat} (h9 : ∃ o, (stS h).1 ⟨4, ((0 : Nat) : Int), 0⟩ = some o ∧ o.b = [1, b]) : hi = b := by
  obtain ⟨o, ho, e⟩ := h9
  rw [x.st] at ho
  unfold ntV at ho
  rw [if_pos (show (⟨4, ((0 : Nat) : Int), 0⟩ : K3) = kP from rfl)] at ho
  by_cases e2 : hi = 0
  · rw [if_pos e2] at ho; cases ho
  · rw [if_neg e2] at ho
    injection ho with ho
    rw [← ho] at e
    have e : [1, hi] = [1, b] := e
    injection e with _ e
    injection e
theorem Hs.sameS (x : Hs h hi V) {s b : Nat} (hs : 1 ≤ s ∧ s ≤ 5) (h1 : 1 ≤ b) (h2 : b ≤ 20) (h9 : ∃ o, (stS h).1 ⟨4, (s : Int), 0⟩ = some o ∧ o.b = votB b) : V s = b := by
  obtain ⟨o, ho, e⟩ := h9
  rw [x.st] at ho
  unfold ntV at ho
  have e9 : ((⟨4, (s : Int), 0⟩ : K3)).n.toNat = s := by show ((s : Int)).toNat = s; omega
  rw [if_neg (fun e => by injection e with _ e _; omega), e9] at ho
  by_cases e2 : V s = 0
  · rw [if_neg (fun e => e.2.2.2.2 e2)] at ho; cases ho
  · rw [if_pos ⟨rfl, rfl, show (1 : Int) ≤ (s : Int) by omega, show (s : Int) ≤ 5 by omega, e2⟩] at ho
    injection ho with ho
    rw [← ho] at e
    have e : votB (V s) = votB b := e
    unfold votB at e
    injection e with _ e
    injection e
theorem Hs.le (x : Hs h hi V) : (stS h).2 ≤ 12 := by
  have hk : ∀ i : Nat, i ≤ 5 → ((⟨4, (i : Int), 0⟩ : K3)) ∈ [(⟨4, 0, 0⟩ : K3), ⟨4, 1, 0⟩, ⟨4, 2, 0⟩, ⟨4, 3, 0⟩, ⟨4, 4, 0⟩, ⟨4, 5, 0⟩] := fun i hi => by
    match i, hi with
    | 0, _ => simp
    | 1, _ => simp
    | 2, _ => simp
    | 3, _ => simp
    | 4, _ => simp
    | 5, _ => simp
  have hb : ∀ y o, (stS h).1 y = some o → (∃ i : Nat, i ≤ 5 ∧ y = ⟨4, (i : Int), 0⟩) ∧ Gr o := fun y o ho => by
    rw [x.st] at ho
    unfold ntV at ho
    by_cases e : y = kP
    · rw [if_pos e] at ho
      by_cases e2 : hi = 0
      · rw [if_pos e2] at ho; cases ho
      · rw [if_neg e2] at ho
        injection ho with ho
        exact ⟨⟨0, by omega, e⟩, Or.inl ⟨hi, by omega, x.h20, ho.symm⟩⟩
    · rw [if_neg e] at ho
      by_cases e2 : y.k = 4 ∧ y.i = 0 ∧ 1 ≤ y.n ∧ y.n ≤ 5 ∧ V y.n.toNat ≠ 0
      · rw [if_pos e2] at ho
        injection ho with ho
        obtain ⟨a1, a2, a3, a4, a5⟩ := e2
        refine ⟨⟨y.n.toNat, by omega, ?_⟩, Or.inr ⟨y.n.toNat, V y.n.toNat, by omega, ⟨by omega, x.v20 _⟩, ho.symm⟩⟩
        obtain ⟨yk, yn, yi⟩ := y
        dsimp only at a1 a2 a3 a4
        rw [a1, a2]
        have : yn = ((yn.toNat : Nat) : Int) := by omega
        show (⟨4, yn, 0⟩ : K3) = ⟨4, ((yn.toNat : Nat) : Int), 0⟩
        rw [← this]
      · rw [if_neg e2] at ho; cases ho
  rw [stS_sum h [(⟨4, 0, 0⟩ : K3), ⟨4, 1, 0⟩, ⟨4, 2, 0⟩, ⟨4, 3, 0⟩, ⟨4, 4, 0⟩, ⟨4, 5, 0⟩] (by decide) (fun y o ho => by
    obtain ⟨⟨i, hi5, e⟩, _⟩ := hb y o ho
    rw [e]
    exact hk i hi5)]
  have hf : ∀ y, fS h y ≤ 2 := fun y => by
    unfold fS
    cases hx : (stS h).1 y with
    | none => decide
    | some o => have := (hb y o hx).2.sec; dsimp only; omega
  have a0 := hf ⟨4, 0, 0⟩
  have a1 := hf ⟨4, 1, 0⟩
  have a2 := hf ⟨4, 2, 0⟩
  have a3 := hf ⟨4, 3, 0⟩
  have a4 := hf ⟨4, 4, 0⟩
  have a5 := hf ⟨4, 5, 0⟩
  show fS h ⟨4, 0, 0⟩ + (fS h ⟨4, 1, 0⟩ + (fS h ⟨4, 2, 0⟩ + (fS h ⟨4, 3, 0⟩ + (fS h ⟨4, 4, 0⟩ + (fS h ⟨4, 5, 0⟩ + 0))))) ≤ 12
  omega
end
/-- how many slots have a vote -/
def cntV (V : Nat → Nat) : Nat := ((List.range 5).filter fun i => decide (V (i + 1) ≠ 0)).length
/-- the slots, from one on -/
def fromL (fr : Int) (zs : List Int) : List Int := zs.filter fun z => decide (z ≠ 0 ∧ fr ≤ z)
theorem fromL_snoc (fr : Int) (zs : List Int) (z : Int) : fromL fr (zs ++ [z]) = fromL fr zs ++ (if z ≠ 0 ∧ fr ≤ z then [z] else []) := by
  unfold fromL
  rw [List.filter_append]
  congr 1
  by_cases h : z ≠ 0 ∧ fr ≤ z
  · rw [if_pos h]; simp [h]
  · rw [if_neg h]; simp only [List.filter_cons, List.filter_nil]; rw [if_neg (by simpa using h)]
theorem nodup_map_on {α β : Type} {f : α → β} {l : List α} (h : l.Nodup) (hf : ∀ a ∈ l, ∀ b ∈ l, f a = f b → a = b) : (l.map f).Nodup :=
  List.pairwise_map.2 (List.Pairwise.imp_of_mem (fun ha hb hab e => hab (hf _ ha _ hb e)) h)
/-- the numbers that are noted -/
def InN (hi : Nat) (V : Nat → Nat) (z : Int) : Prop := (z = 0 ∧ hi ≠ 0) ∨ (1 ≤ z ∧ z ≤ 5 ∧ V z.toNat ≠ 0)
section
variable {h h' : List Rc} {hi : Nat} {V : Nat → Nat} {ss : List K3}
theorem Hs.key (x : Hs h hi V) (y : K3) : (∃ o, (stS h).1 y = some o) ↔ y.k = 4 ∧ y.i = 0 ∧ InN hi V y.n := by
  rw [x.st]
  unfold ntV InN
  obtain ⟨yk, yn, yi⟩ := y
  dsimp only
  by_cases e : (⟨yk, yn, yi⟩ : K3) = kP
  · rw [if_pos e]
    injection e with e1 e2 e3
    subst e1 e2 e3
    by_cases e9 : hi = 0
    · rw [if_pos e9]
      refine ⟨fun ⟨o, ho⟩ => (by cases ho), fun ⟨_, _, h3⟩ => ?_⟩
      rcases h3 with ⟨_, h3⟩ | h3
      · exact absurd e9 h3
      · exact absurd h3.1 (by decide)
    · rw [if_neg e9]
      exact ⟨fun _ => ⟨rfl, rfl, Or.inl ⟨rfl, e9⟩⟩, fun _ => ⟨_, rfl⟩⟩
  · rw [if_neg e]
    by_cases e9 : yk = 4 ∧ yi = 0 ∧ 1 ≤ yn ∧ yn ≤ 5 ∧ V yn.toNat ≠ 0
    · rw [if_pos e9]
      exact ⟨fun _ => ⟨e9.1, e9.2.1, Or.inr e9.2.2⟩, fun _ => ⟨_, rfl⟩⟩
    · rw [if_neg e9]
      refine ⟨fun ⟨o, ho⟩ => (by cases ho), fun ⟨h1, h2, h3⟩ => ?_⟩
      rcases h3 with ⟨h3, _⟩ | h3
      · exact absurd (by rw [h1, h2, h3]) e
      · exact absurd ⟨h1, h2, h3⟩ e9
theorem wf3_in {z : Int} (hz : 0 ≤ z ∧ z ≤ 5) : wf3 ⟨4, z, 0⟩ := by
  have e : z = ((z.toNat : Nat) : Int) := by omega
  rw [e]
  exact ⟨wf_n60 (n := 4) (by omega), wf_n60 (by omega), wf_n60 (n := 0) (by omega)⟩
theorem Hs.nts (x : Hs h hi V) (ht : Ths h ss) : (ntsL (srt3 ss)).Nodup ∧ (∀ z, z ∈ ntsL (srt3 ss) ↔ InN hi V z) ∧ (ntsL (srt3 ss)).length ≤ 6 := by
  have hm : ∀ y ∈ srt3 ss, y.k = 4 ∧ y.i = 0 ∧ InN hi V y.n := fun y hy => (x.key y).1 ((ht.2 y).1 ((srt3_mem ss y).1 hy)).2
  have hnd : (srt3 ss).Nodup := (List.mergeSort_perm _ _).nodup_iff.2 ht.1
  have hn : (ntsL (srt3 ss)).Nodup := by
    unfold ntsL
    have h1 : (srt3 ss).filter (fun y => decide (y.k = 4)) = srt3 ss := List.filter_eq_self.2 (fun y hy => by simp [(hm y hy).1])
    rw [h1]
    refine nodup_map_on hnd (fun a ha b hb e => ?_)
    obtain ⟨a1, a2, _⟩ := hm a ha
    obtain ⟨b1, b2, _⟩ := hm b hb
    obtain ⟨ak, an, ai⟩ := a
    obtain ⟨bk, bn, bi⟩ := b
    dsimp only at a1 a2 b1 b2 e
    rw [a1, a2, b1, b2, e]
  have hmm : ∀ z, z ∈ ntsL (srt3 ss) ↔ InN hi V z := fun z => by
    unfold ntsL
    rw [List.mem_map]
    constructor
    · rintro ⟨y, hy, rfl⟩
      exact (hm y (List.mem_filter.1 hy).1).2.2
    · intro hz
      have h01 : 0 ≤ z ∧ z ≤ 5 := by rcases hz with hz | hz <;> omega
      refine ⟨⟨4, z, 0⟩, List.mem_filter.2 ⟨(srt3_mem ss _).2 ((ht.2 _).2 ⟨wf3_in h01, (x.key _).2 ⟨rfl, rfl, hz⟩⟩), by simp⟩, rfl⟩
  refine ⟨hn, hmm, ?_⟩
  have h6 := len_sub _ ([0, 1, 2, 3, 4, 5] : List Int) hn (fun z hz => by
    have h1 := (hmm z).1 hz
    have h01 : 0 ≤ z ∧ z ≤ 5 := by rcases h1 with hz | hz <;> omega
    simp only [List.mem_cons, List.not_mem_nil, or_false]
    omega)
  exact h6
theorem Hs.cnt (x : Hs h hi V) (ht : Ths h ss) : (fromL 1 (ntsL (srt3 ss))).length = cntV V := by
  obtain ⟨hn, hm, _⟩ := x.nts ht
  have h1 : (fromL 1 (ntsL (srt3 ss))).Nodup := hn.filter _
  have h2 : (((List.range 5).filter fun i => decide (V (i + 1) ≠ 0)).map fun i : Nat => ((i + 1 : Nat) : Int)).Nodup := nodup_map_on (List.nodup_range.filter _) (fun a _ b _ e => by omega)
  have h3 := ((List.perm_ext_iff_of_nodup h1 h2).2 (fun z => by
    unfold fromL
    rw [List.mem_filter, hm, List.mem_map]
    constructor
    · rintro ⟨a, b⟩
      have b := of_decide_eq_true b
      rcases a with a | a
      · exact absurd a.1 b.1
      · refine ⟨z.toNat - 1, List.mem_filter.2 ⟨List.mem_range.2 (by omega), ?_⟩, by omega⟩
        rw [show z.toNat - 1 + 1 = z.toNat by omega]
        exact decide_eq_true a.2.2
    · rintro ⟨i, hi9, rfl⟩
      obtain ⟨a, b⟩ := List.mem_filter.1 hi9
      have a := List.mem_range.1 a
      have b := of_decide_eq_true b
      refine ⟨Or.inr ⟨by omega, by omega, ?_⟩, decide_eq_true ⟨by omega, by omega⟩⟩
      rw [show (((i + 1 : Nat) : Int)).toNat = i + 1 by omega]
      exact b)).length_eq
  rw [h3, List.length_map]
  rfl
end
/-- a vote as it is told -/
def voV (V : Nat → Nat) (z : Int) : Vo := ⟨z, (V z.toNat : Int), cId (V z.toNat), []⟩
theorem cntV_put {V : Nat → Nat} {s b : Nat} (hs : 1 ≤ s ∧ s ≤ 5) (hb : b ≠ 0) : cntV (fun t => if t = s then b else V t) = if V s = 0 then cntV V + 1 else cntV V := by
  obtain ⟨i, rfl⟩ : ∃ i, s = i + 1 := ⟨s - 1, by omega⟩
  have hl : ∀ f : Nat → Bool, ((List.range 5).filter f).length = (if f 0 then 1 else 0) + (if f 1 then 1 else 0) + (if f 2 then 1 else 0) + (if f 3 then 1 else 0) + (if f 4 then 1 else 0) := fun f => by
    show ([0, 1, 2, 3, 4].filter f).length = _
    simp only [List.filter_cons, List.filter_nil]
    cases f 0 <;> cases f 1 <;> cases f 2 <;> cases f 3 <;> cases f 4 <;> rfl
  unfold cntV
  rw [hl, hl]
  have hi5 : i < 5 := by omega
  match i, hi5 with
  | 0, _ => by_cases h : V 1 = 0 <;> simp [h, hb] <;> omega
  | 1, _ => by_cases h : V 2 = 0 <;> simp [h, hb] <;> omega
  | 2, _ => by_cases h : V 3 = 0 <;> simp [h, hb] <;> omega
  | 3, _ => by_cases h : V 4 = 0 <;> simp [h, hb] <;> omega
  | 4, _ => by_cases h : V 5 = 0 <;> simp [h, hb] <;> omega
end Go.Proofs.YtippipeebkkghaaGreatDoor
