/- Commands as bytes, plain: reading. -/
import Derived.Test.YtippipeebkkghaaGreatDoorNb
namespace Go.Proofs.YtippipeebkkghaaGreatDoor
set_option linter.unusedVariables false

theorem rdText_num {most : Nat} (hm : most < 256 ^ 8) {s : List Nat} (hs : s.length ≤ most) (t : List Nat) : rdText most (numB s.length ++ (s ++ t)) = some (s, t) := by
  unfold rdText
  rw [rdNum_num hs (by omega)]
  dsimp only
  rw [if_pos (by rw [List.length_append]; omega), List.take_left' rfl, List.drop_left' rfl]
theorem rdText_back {most : Nat} {xs s t : List Nat} (hb : ∀ x ∈ xs, x < 256) (h : rdText most xs = some (s, t)) : xs = numB s.length ++ (s ++ t) ∧ s.length ≤ most ∧ (∀ x ∈ s, x < 256) ∧ ∀ x ∈ t, x < 256 := by
  unfold rdText at h
  cases hq : rdNum most xs with
  | none => rw [hq] at h; cases h
  | some p =>
    obtain ⟨n, u⟩ := p
    rw [hq] at h
    dsimp only at h
    obtain ⟨e1, e2, e3, e4⟩ := rdNum_back hb hq
    by_cases hn : n ≤ u.length
    · rw [if_pos hn] at h
      injection h with h
      injection h with h1 h2
      have hl : s.length = n := by rw [← h1, List.length_take]; omega
      refine ⟨?_, by omega, fun x hx => ?_, fun x hx => ?_⟩
      · rw [e1, hl, ← h1, ← h2, List.take_append_drop]
      · rw [← h1] at hx; exact e4 x (List.mem_of_mem_take hx)
      · rw [← h2] at hx; exact e4 x (List.mem_of_mem_drop hx)
    · rw [if_neg hn] at h
      cases h
/-- a command, and what is left -/
def rdCmd (xs : List Nat) : Option (Cp × List Nat) :=
  (rdNums mx 7 xs).bind fun p => (rdNum 4294967295 p.2).bind fun q => (rdNums mx 2 q.2).bind fun r => (rdText 8 r.2).bind fun s => (rdNum 255 s.2).bind fun n => (rdNums mx n.1 n.2).bind fun l =>
    some (⟨p.1.getD 0 0, p.1.getD 1 0, p.1.getD 2 0, p.1.getD 3 0, p.1.getD 4 0, p.1.getD 5 0, p.1.getD 6 0, q.1, r.1.getD 0 0, r.1.getD 1 0, s.1, l.1⟩, l.2)
/-- numbers that are small enough to be written -/
structure Cp.fit (c : Cp) : Prop where
  n : ∀ x ∈ [c.id, c.kind, c.blob, c.other, c.index, c.node, c.size, c.k, c.m], x ≤ mx
  s : c.sum ≤ 4294967295
  k : c.key.length ≤ 8
  l : c.nodes.length ≤ 255
  v : ∀ x ∈ c.nodes, x ≤ mx
theorem numsB_append (l m : List Nat) : numsB (l ++ m) = numsB l ++ numsB m := by unfold numsB; rw [List.flatMap_append]
theorem numsB_one (n : Nat) : numsB [n] = numB n := by simp [numsB]
theorem cmdB_parts (c : Cp) (t : List Nat) : cmdB c ++ t = numsB [c.id, c.kind, c.blob, c.other, c.index, c.node, c.size] ++ (numB c.sum ++ (numsB [c.k, c.m] ++ (numB c.key.length ++ (c.key ++ (numB c.nodes.length ++ (numsB c.nodes ++ t)))))) := by
  unfold cmdB
  rw [show [c.id, c.kind, c.blob, c.other, c.index, c.node, c.size, c.sum, c.k, c.m, c.key.length] = [c.id, c.kind, c.blob, c.other, c.index, c.node, c.size] ++ ([c.sum] ++ ([c.k, c.m] ++ [c.key.length])) from rfl]
  simp only [numsB_append, numsB_one, List.append_assoc]
theorem rdCmd_num {c : Cp} (h : c.fit) (t : List Nat) : rdCmd (cmdB c ++ t) = some (c, t) := by
  have hm : mx < 256 ^ 8 := by decide
  have hn := h.n
  simp only [List.mem_cons, List.not_mem_nil, or_false, forall_eq_or_imp, forall_eq] at hn
  unfold rdCmd
  rw [cmdB_parts, show (7 : Nat) = [c.id, c.kind, c.blob, c.other, c.index, c.node, c.size].length from rfl, rdNums_num hm _ _ (fun x hx => h.n x (by simp only [List.mem_cons, List.not_mem_nil, or_false] at hx ⊢; omega))]
  dsimp only [Option.bind_some]
  rw [rdNum_num h.s (by have := h.s; omega)]
  dsimp only [Option.bind_some]
  rw [show (2 : Nat) = [c.k, c.m].length from rfl, rdNums_num hm _ _ (fun x hx => h.n x (by simp only [List.mem_cons, List.not_mem_nil, or_false] at hx ⊢; omega))]
  dsimp only [Option.bind_some]
  rw [rdText_num (by decide) h.k]
  dsimp only [Option.bind_some]
  rw [rdNum_num h.l (by have := h.l; omega)]
  dsimp only [Option.bind_some]
  rw [rdNums_num hm _ _ h.v]
  rfl
theorem list7 {l : List Nat} (h : l.length = 7) : l = [l.getD 0 0, l.getD 1 0, l.getD 2 0, l.getD 3 0, l.getD 4 0, l.getD 5 0, l.getD 6 0] := by
  match l, h with
  | [a, b, c, d, e, f, g], _ => rfl
theorem list2 {l : List Nat} (h : l.length = 2) : l = [l.getD 0 0, l.getD 1 0] := by
  match l, h with
  | [a, b], _ => rfl
theorem rdCmd_back {c : Cp} {xs t : List Nat} (hb : ∀ x ∈ xs, x < 256) (h : rdCmd xs = some (c, t)) : xs = cmdB c ++ t ∧ c.fit ∧ ∀ x ∈ t, x < 256 := by
  unfold rdCmd at h
  obtain ⟨⟨l1, t1⟩, h1, h⟩ := Option.bind_eq_some_iff.1 h
  obtain ⟨⟨n2, t2⟩, h2, h⟩ := Option.bind_eq_some_iff.1 h
  obtain ⟨⟨l3, t3⟩, h3, h⟩ := Option.bind_eq_some_iff.1 h
  obtain ⟨⟨s4, t4⟩, h4, h⟩ := Option.bind_eq_some_iff.1 h
  obtain ⟨⟨n5, t5⟩, h5, h⟩ := Option.bind_eq_some_iff.1 h
  obtain ⟨⟨l6, t6⟩, h6, h⟩ := Option.bind_eq_some_iff.1 h
  dsimp only at h1 h2 h3 h4 h5 h6 h
  obtain ⟨a1, a2, a3, a4⟩ := rdNums_back 7 _ _ _ hb h1
  obtain ⟨b1, b2, b3, b4⟩ := rdNum_back a4 h2
  obtain ⟨c1, c2, c3, c4⟩ := rdNums_back 2 _ _ _ b4 h3
  obtain ⟨d1, d2, d3, d4⟩ := rdText_back c4 h4
  obtain ⟨e1, e2, e3, e4⟩ := rdNum_back d4 h5
  obtain ⟨f1, f2, f3, f4⟩ := rdNums_back n5 _ _ _ e4 h6
  injection h with h
  injection h with hc ht
  subst ht
  have q1 := list7 a2
  have q3 := list2 c2
  subst hc
  refine ⟨?_, ⟨?_, b2, d2, (by show l6.length ≤ 255; omega), fun x hx => (f3 x hx).1⟩, f4⟩
  · rw [cmdB_parts]
    dsimp only
    rw [← q1, ← q3, f2, ← f1, ← e1, ← d1, ← c1, ← b1, ← a1]
  · intro x hx
    have m1 : ∀ y ∈ l1, y ≤ mx := fun y hy => (a3 y hy).1
    have m3 : ∀ y ∈ l3, y ≤ mx := fun y hy => (c3 y hy).1
    rw [q1] at m1
    rw [q3] at m3
    simp only [List.mem_cons, List.not_mem_nil, or_false, forall_eq_or_imp, forall_eq] at m1 m3 hx
    rcases hx with rfl | rfl | rfl | rfl | rfl | rfl | rfl | rfl | rfl
    · exact m1.1
    · exact m1.2.1
    · exact m1.2.2.1
    · exact m1.2.2.2.1
    · exact m1.2.2.2.2.1
    · exact m1.2.2.2.2.2.1
    · exact m1.2.2.2.2.2.2
    · exact m3.1
    · exact m3.2
end Go.Proofs.YtippipeebkkghaaGreatDoor
